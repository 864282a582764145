package hold_test

import (
	"slices"
	"testing"

	"rosary/api"
	"rosary/hold"
)

// nobody goes through a nil hold and a zero one.
func nobody() map[string]*hold.Hold { return map[string]*hold.Hold{"nil": nil, "zero": {}} }

// A nil one owns nothing and has nothing, and so does one that New did not make.
func TestP1401Nil(t *testing.T) {
	for what, h := range nobody() {
		is(t, what+": Own", h.Own(span("c-f"), 1), false)
		is(t, what+": Own of the whole ring", h.Own(api.Arc{}, 0), false)
		has(t, what, h, "", "")
		isText(t, what+": Pieces", spell(h.Pieces()), "")
		is(t, what+": Has", h.Has(at("d")), false)
		is(t, what+": Has 0", h.Has(0), false)
		is(t, what+": Epoch", h.Epoch(), 0)
	}
}

// A nil one tells ErrState, whatever it is asked.
func TestP1402Nil(t *testing.T) {
	for what, h := range nobody() {
		for _, a := range append(asks("d", "", long("d", 17)), api.Ask{}, api.Ask{Op: 5}, api.Ask{Op: api.Scan, Most: 41}) {
			tells(t, what, h, a, api.Told{Errno: api.ErrState})
		}
	}
}

// A nil one freezes, loses, wins and keeps nothing.
func TestP1403Nil(t *testing.T) {
	for what, h := range nobody() {
		freezesNot(t, what, h, span("c-f"), api.ErrState)
		h.Thaw()
		is(t, what+": Lose", h.Lose(1), api.ErrState)
		is(t, what+": Win", h.Win(span("c-f"), 1, items("d")...), api.ErrState)
		is(t, what+": Win of what may not be", h.Win(span("c-f"), -1, items("z")...), api.ErrState)
		is(t, what+": Keep 0", h.Keep(0), false)
		is(t, what+": Keep 1", h.Keep(1), false)
		h.Release(1)
		h.Tick()
		has(t, what, h, "", "")
	}
}

// What was told may be written over without a change of the hold.
func TestP1401Shared(t *testing.T) {
	h := fill(t, owns(t, "c-f@1 f-k@2"), "d e g")
	for _, l := range [][]api.Owned{h.Arcs(), h.Pieces()} {
		for n := range l {
			l[n] = api.Owned{Arc: span("x-z"), Node: 99, Epoch: 99}
		}
	}
	all := h.Items()
	clear(all)
	_ = append(h.Arcs(), api.Owned{Epoch: 77})
	has(t, "written over", h, "c-f@1 f-k@2", "d e g")
	isText(t, "Pieces", spell(h.Pieces()), "c-k@2")
	kept, pieces := h.Arcs(), h.Pieces()
	h.Own(span("a-c"), 1)
	lose(h, "d-g", 3)
	isText(t, "told earlier", spell(kept), "c-f@1 f-k@2")
	isText(t, "told earlier", spell(pieces), "c-k@2")
	has(t, "behind them", h, "a-d@1 g-k@2", "g")
}

// What a scan told may be written over.
func TestP1402ScanShared(t *testing.T) {
	h := fill(t, owns(t, "c-f@1"), "d e")
	told := h.Do(api.Ask{Op: api.Scan, Key: "c", Most: 9})
	clear(told.Items)
	scans(t, "written over", h, "c", "", 9, "d e", "f")
	told = h.Do(api.Ask{Op: api.Scan, Key: "c", Most: 9})
	put(h, "d", "2")
	isText(t, "told earlier", keys(told.Items), "d e")
}

// What Freeze told may be written over, and what Win was handed in is not written into, nor kept.
func TestP1403Shared(t *testing.T) {
	h := fill(t, owns(t, "c-f@1"), "d e")
	l, _, _ := h.Freeze(span("c-f"))
	clear(l)
	has(t, "written over", h, "c-f@1", "d e")
	h.Thaw()
	freezes(t, "again", h, span("c-f"), "d e", 1)
	h.Thaw()
	l, _, _ = h.Freeze(span("c-f"))
	h.Lose(3)
	isText(t, "told earlier", keys(l), "d e")
	mine := items("e c d")
	h.Win(span("c-f"), 2, mine...)
	is(t, "handed in", slices.Equal(mine, items("e c d")), true)
	clear(mine)
	has(t, "written over", h, "c-f@2", "c d e")
}

// One hold has nothing to do with another one.
func TestP1401Two(t *testing.T) {
	one, two := owns(t, "c-f@1"), owns(t, "f-k@2")
	fill(t, one, "d")
	one.Keep(99)
	one.Freeze(span("c-f"))
	has(t, "the other one", two, "f-k@2", "")
	roomIs(t, "the other one", two, 100)
	freezes(t, "the other one", two, span("f-k"), "", 2)
}
