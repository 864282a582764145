package hold_test

import (
	"math"
	"testing"

	"rosary/api"
	"rosary/hold"
)

// Freeze tells the items of an arc, in its order, and the greatest epoch of what is owned in it.
func TestP1403Freeze(t *testing.T) {
	for _, c := range []struct {
		what, owned, arc, all string
		epoch                 int
	}{
		{"what is owned in one arc", "b-m@3", "b-m", "c d f k", 3},
		{"a part in its middle", "b-m@3", "d-f", "d", 3},
		{"at its beginning", "b-m@3", "b-f", "c d", 3},
		{"at its end", "b-m@3", "f-m", "f k", 3},
		{"with no items", "b-m@3", "g-h", "", 3},
		{"several side by side", "b-d@3 d-f@5 f-m@4", "b-m", "c d f k", 5},
		{"parts of several, the greatest not among them", "b-d@3 d-f@2 f-m@9", "c-e", "c d", 3},
		{"up to where the greater one begins", "b-d@3 d-f@9", "b-d", "c", 3},
		{"up to just one point of it", "b-d@3 d-m@9", "b-e", "c d", 9},
		{"from where the lesser one begins on", "b-d@9 d-m@3", "d-m", "d f k", 3},
		{"the greatest epoch elsewhere", "b-m@3 p-r@9", "c-m", "c d f k", 3},
		{"of epoch 0", "b-m@0", "c-d", "c", 0},
		{"over the end", "s-m@3", "x-d", "x z a c", 3},
		{"over the end, all that is owned", "s-m@3", "s-m", "x z a c d f k", 3},
		{"over the end, of two", "s-@3 -m@4", "x-d", "x z a c", 4},
		{"over the end, of two, the greater one first", "s-@5 -m@4", "x-d", "x z a c", 5},
		{"over the end, of three", "s-y@5 y-b@7 b-m@4", "x-d", "x z a c", 7},
		{"up to the end", "s-m@3", "x-", "x z", 3},
		{"from 0 on", "s-m@3", "-d", "a c", 3},
		{"the whole ring", "-@3", "-", "a c d f k x z", 3},
		{"the whole ring from d on", "-@3", "d-d", "d f k x z a c", 3},
		{"the whole ring from z on", "m-m@3", "z-z", "z a c d f k x", 3},
		{"the whole ring of several", "b-m@3 m-b@4", "d-d", "d f k x z a c", 4},
		{"the whole ring of several, from where two meet on", "b-m@5 m-b@4", "m-m", "x z a c d f k", 5},
		{"all but a part of the whole ring", "-@3", "f-d", "f k x z a c", 3},
		{"all but a part of several", "b-e@3 e-b@4", "f-d", "f k x z a c", 4},
	} {
		h := owns(t, c.owned)
		// Those that lie where nothing is owned are not put.
		for _, item := range items("a c d f k x z") {
			put(h, item.Key, item.Value)
		}
		freezes(t, c.what, h, span(c.arc), c.all, c.epoch)
		freezesNot(t, c.what+", again", h, span(c.arc), api.ErrBusy)
		arcs, all := spell(h.Arcs()), keys(h.Items())
		h.Thaw()
		freezes(t, c.what+", behind a Thaw", h, span(c.arc), c.all, c.epoch)
		has(t, c.what, h, arcs, all)
	}
}

// What is not all owned is not frozen.
func TestP1403FreezeNotOwned(t *testing.T) {
	for _, c := range []struct{ what, owned, arc string }{
		{"nothing is owned", "", "b-c"},
		{"the whole ring, nothing is owned", "", "-"},
		{"elsewhere", "c-m@1", "p-r"},
		{"more at its beginning", "c-m@1", "b-d"},
		{"more at its end", "c-m@1", "k-n"},
		{"more at both", "c-m@1", "b-n"},
		{"from its end on", "c-m@1", "m-n"},
		{"up to its beginning", "c-m@1", "b-c"},
		{"over the end, back to it", "c-m@1", "k-d"},
		{"all but a part of it", "c-m@1", "e-d"},
		{"the whole ring", "c-m@1", "-"},
		{"the whole ring from it on", "c-m@1", "c-c"},
		{"the whole ring from within it on", "c-m@1", "e-e"},
		{"a gap between", "c-f@1 g-m@1", "c-m"},
		{"a gap between, unlike epochs", "c-f@1 f-h@2 k-m@1", "d-l"},
		{"over the end, which is not owned", "c-m@1 p-s@1", "p-m"},
		{"over the end, more behind it", "s-c@1", "x-d"},
		{"over the end, more ahead of it", "s-c@1", "p-b"},
		{"all but what is not owned, and a part of that", "s-c@1", "c-s"},
		{"the whole ring, all but a part is owned", "d-c@1", "e-e"},
	} {
		h := fill(t, owns(t, c.owned), "")
		arcs := spell(h.Arcs())
		freezesNot(t, c.what, h, span(c.arc), api.ErrArg)
		has(t, c.what, h, arcs, "")
		is(t, c.what+": Lose", h.Lose(1), api.ErrState)
	}
}

// One more point than is owned is too much.
func TestP1403FreezeOnePoint(t *testing.T) {
	h := hold.New(node, 9)
	h.Own(from(5, 9), 2)
	h.Own(from(end, 3), 4)
	freezesNot(t, "one ahead", h, from(4, 9), api.ErrArg)
	freezesNot(t, "one behind", h, from(5, 10), api.ErrArg)
	freezesNot(t, "one ahead of the one over the end", h, from(end-1, 3), api.ErrArg)
	freezesNot(t, "one behind it", h, from(end, 4), api.ErrArg)
	for _, a := range []api.Arc{from(5, 9), from(5, 6), from(8, 9), from(6, 8)} {
		freezes(t, "just that", h, a, "", 2)
		h.Thaw()
	}
	for _, a := range []api.Arc{from(end, 3), from(end, 0), from(0, 1), from(2, 3), from(end, 1)} {
		freezes(t, "over the end", h, a, "", 4)
		h.Thaw()
	}
}

// While something is frozen nothing else is; that is told ahead of what is not owned.
func TestP1403FreezeBusy(t *testing.T) {
	h := fill(t, owns(t, "c-m@1"), "d k")
	freezes(t, "the first one", h, span("c-e"), "d", 1)
	for _, letters := range []string{"c-e", "d-f", "k-m", "a-b", "-"} {
		freezesNot(t, letters, h, span(letters), api.ErrBusy)
	}
	tells(t, "still frozen", h, api.Ask{Op: api.Get, Key: "d"}, api.Told{Errno: api.ErrBusy})
	tells(t, "not frozen", h, api.Ask{Op: api.Get, Key: "k"}, api.Told{Value: "k"})
}

// Behind a Thaw nothing is frozen; one of nothing, or a second one, changes nothing.
func TestP1403Thaw(t *testing.T) {
	h := fill(t, owns(t, "c-m@1"), "d k")
	h.Thaw()
	has(t, "of nothing", h, "c-m@1", "d k")
	freezes(t, "behind that", h, span("c-e"), "d", 1)
	h.Thaw()
	h.Thaw()
	has(t, "twice", h, "c-m@1", "d k")
	is(t, "Lose", h.Lose(1), api.ErrState)
	tells(t, "not frozen", h, api.Ask{Op: api.Get, Key: "d"}, api.Told{Value: "d"})
	freezes(t, "another one", h, span("e-m"), "k", 1)
	tells(t, "the other one", h, api.Ask{Op: api.Get, Key: "k"}, api.Told{Errno: api.ErrBusy})
}

// What is frozen is given away: it is owned no more, its items go, and it is sent on.
func TestP1403Lose(t *testing.T) {
	for _, c := range []struct{ what, owned, arc, arcs, all string }{
		{"a whole arc", "b-m@3", "b-m", "", ""},
		{"in its middle", "b-m@3", "d-g", "b-d@3 g-m@3", "c k"},
		{"at its beginning", "b-m@3", "b-g", "g-m@3", "k"},
		{"at its end", "b-m@3", "g-m", "b-g@3", "c d f"},
		{"one with others beside it", "b-e@1 e-h@2 h-m@1", "e-h", "b-e@1 h-m@1", "c d k"},
		{"parts of several", "b-e@1 e-h@2 h-m@1", "d-k", "b-d@1 k-m@1", "c k"},
		{"parts of two", "b-e@1 e-h@2 h-m@1", "d-f", "b-d@1 f-h@2 h-m@1", "c f k"},
		{"several whole ones", "b-e@1 e-h@2 h-m@1", "b-m", "", ""},
		{"one elsewhere", "b-e@1 p-r@2", "p-r", "b-e@1", "c d"},
		{"over the end, all", "s-m@3", "s-m", "", ""},
		{"over the end, in its middle", "s-m@3", "z-b", "b-m@3 s-z@3", "c d f k x"},
		{"over the end, ahead of that", "s-m@3", "s-z", "z-m@3", "a c d f k z"},
		{"over the end, behind that", "s-m@3", "d-m", "s-d@3", "a c x z"},
		{"over the end, up to it", "s-m@3", "s-", "-m@3", "a c d f k"},
		{"over the end, from 0 on", "s-m@3", "-m", "s-@3", "x z"},
		{"over the end, of two", "s-@3 -m@4", "z-b", "b-m@4 s-z@3", "c d f k x"},
		{"the whole ring", "-@3", "-", "", ""},
		{"the whole ring from d on", "-@3", "d-d", "", ""},
		{"of the whole ring a part", "-@3", "d-g", "g-d@3", "a c k x z"},
		{"of the whole ring up to the end", "-@3", "d-", "-d@3", "a c"},
		{"of the whole ring from 0 on", "-@3", "-d", "d-@3", "d f k x z"},
		{"of the whole ring all but a part", "-@3", "g-d", "d-g@3", "d f"},
		{"of two both ends", "b-m@3 m-b@4", "l-c", "c-l@3", "c d f k"},
		{"of two a part of each", "b-m@3 m-b@4", "k-p", "b-k@3 p-b@4", "a c d f x z"},
		{"of the whole ring of two, all", "b-m@3 m-b@4", "d-d", "", ""},
		{"with no items", "b-m@3", "g-h", "b-g@3 h-m@3", "c d f k"},
	} {
		h := owns(t, c.owned)
		// Those that lie where nothing is owned are not put.
		for _, item := range items("a c d f k x z") {
			put(h, item.Key, item.Value)
		}
		h.Freeze(span(c.arc))
		is(t, c.what+": Lose", h.Lose(5), api.OK)
		has(t, c.what, h, c.arcs, c.all)
		is(t, c.what+": Lose again", h.Lose(6), api.ErrState)
		for _, x := range []string{"a", "c", "d", "f", "k", "x", "z"} {
			if told := get(h, x); told.Errno == api.ErrElse && told.Node != 5 && told.Node != -1 {
				t.Errorf("%s: %q is sent to %d", c.what, x, told.Node)
			}
		}
	}
}

// What Do and Scan tell behind a Lose: what was lost is elsewhere, what is left is read and written.
func TestP1403LoseDo(t *testing.T) {
	h := fill(t, owns(t, "b-m@3"), "c d e f k")
	lose(h, "d-f", 5)
	has(t, "lost", h, "b-d@3 f-m@3", "c f k")
	isText(t, "Pieces", spell(h.Pieces()), "b-d@3 f-m@3")
	for k, want := range map[string]api.Told{
		"c": {Value: "c"}, "cz": {Errno: api.ErrNone}, "d": {Errno: api.ErrElse, Node: 5}, "ez": {Errno: api.ErrElse, Node: 5}, "f": {Value: "f"}, "m": {Errno: api.ErrElse, Node: -1},
	} {
		tells(t, "Get "+k, h, api.Ask{Op: api.Get, Key: k}, want)
	}
	scans(t, "up to it", h, "b", "", 9, "c", "d")
	scans(t, "behind it", h, "f", "", 9, "f k", "m")
	tells(t, "within it", h, api.Ask{Op: api.Scan, Key: "e", Most: 9}, api.Told{Errno: api.ErrElse, Node: 5})
	is(t, "Put ahead of it", put(h, "cz", "1"), api.OK)
	freezes(t, "another one", h, span("f-m"), "f k", 3)
	is(t, "to the least number", h.Lose(math.MinInt), api.OK)
	tells(t, "to the least number", h, api.Ask{Op: api.Get, Key: "k"}, api.Told{Errno: api.ErrElse, Node: math.MinInt})
	has(t, "all is lost but a part", h, "b-d@3", "c cz=1")
}

// While nothing is frozen nothing can be lost.
func TestP1403LoseState(t *testing.T) {
	h := fill(t, owns(t, "b-m@3"), "c")
	is(t, "at first", h.Lose(5), api.ErrState)
	h.Freeze(span("p-r"))
	is(t, "behind a Freeze of what is not owned", h.Lose(5), api.ErrState)
	has(t, "behind both", h, "b-m@3", "c")
	tells(t, "behind both", h, api.Ask{Op: api.Get, Key: "p"}, api.Told{Errno: api.ErrElse, Node: -1})
}

// What was lost may be owned again, and makes room.
func TestP1403LoseOwn(t *testing.T) {
	h := hold.New(node, 3)
	h.Own(span("b-m"), 1)
	fill(t, h, "c d k")
	roomIs(t, "full", h, 0)
	lose(h, "b-e", 5)
	roomIs(t, "two went", h, 2)
	is(t, "Own", h.Own(span("b-e"), 1), true)
	has(t, "owned again", h, "b-m@1", "k")
	tells(t, "owned again", h, api.Ask{Op: api.Get, Key: "c"}, api.Told{Errno: api.ErrNone})
	lose(h, "k-m", 6)
	is(t, "Own of another epoch", h.Own(span("k-m"), 8), true)
	has(t, "owned again of another epoch", h, "b-k@1 k-m@8", "")
}
