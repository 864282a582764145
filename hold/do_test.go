package hold_test

import (
	"math"
	"testing"

	"rosary/api"
	"rosary/hold"
)

// An Op is one of four; else it is ErrArg, whatever else is wrong.
func TestP1402DoOp(t *testing.T) {
	h := fill(t, owns(t, "c-f@1"), "d")
	h.Freeze(span("e-f"))
	for _, op := range []int{0, -1, 5, 6, math.MinInt, math.MaxInt} {
		for _, k := range []string{"d", "", "z", "e", long("d", 17)} {
			tells(t, "no such Op", h, api.Ask{Op: op, Key: k, Value: long("v", 17), Most: -1}, api.Told{Errno: api.ErrArg})
		}
	}
	has(t, "behind them", h, "c-f@1", "d")
}

// A key may have from 1 on up to MaxKey bytes; a Scan's may have none.
func TestP1402DoKey(t *testing.T) {
	just := long("d", api.MaxKey)
	h := fill(t, owns(t, "c-f@1"), "d "+just)
	wrong := []string{just + "d", long("d", 1000), long("z", 17), long("e", 17)}
	h.Freeze(span("e-f"))
	for _, op := range []int{api.Get, api.Put, api.Del} {
		for _, k := range append(wrong, "") {
			tells(t, "may not be", h, api.Ask{Op: op, Key: k, Value: long("v", 17)}, api.Told{Errno: api.ErrKey})
		}
	}
	for _, k := range wrong {
		tells(t, "may not be", h, api.Ask{Op: api.Scan, Key: k, Most: 9}, api.Told{Errno: api.ErrKey})
		tells(t, "may not be, no Most", h, api.Ask{Op: api.Scan, Key: k}, api.Told{Errno: api.ErrKey})
	}
	tells(t, "just may", h, api.Ask{Op: api.Get, Key: just}, api.Told{Value: just})
	tells(t, "just may", h, api.Ask{Op: api.Scan, Key: just, Most: 9, To: "e"}, api.Told{Items: items(just)})
	tells(t, "just may", h, api.Ask{Op: api.Put, Key: just, Value: "v"}, api.Told{})
	tells(t, "just may", h, api.Ask{Op: api.Del, Key: just}, api.Told{})
	has(t, "behind them", h, "c-f@1", "d")
}

// What lies where nothing is owned is elsewhere: who knows where?
func TestP1402DoElse(t *testing.T) {
	h := fill(t, owns(t, "c-m@1"), "d k")
	for _, a := range asks("b", "m", "z", "\x00", "\xff") {
		tells(t, "not owned, no pointer", h, a, api.Told{Errno: api.ErrElse, Node: -1})
	}
	tells(t, "Scan with no Key, 0 is not owned", h, api.Ask{Op: api.Scan, Most: 9}, api.Told{Errno: api.ErrElse, Node: -1})
	h.Freeze(span("c-f"))
	h.Lose(3)
	for _, a := range asks("c", "d", "e", "ezzz") {
		tells(t, "lost", h, a, api.Told{Errno: api.ErrElse, Node: 3})
	}
	for _, a := range asks("b", "m") {
		tells(t, "not owned, a pointer elsewhere", h, a, api.Told{Errno: api.ErrElse, Node: -1})
	}
	h.Tick()
	h.Freeze(span("k-m"))
	h.Lose(0)
	for _, a := range asks("k", "l") {
		tells(t, "lost to node 0", h, a, api.Told{Errno: api.ErrElse, Node: 0})
	}
	for _, a := range asks("c") {
		tells(t, "the other pointer", h, a, api.Told{Errno: api.ErrElse, Node: 3})
	}
	has(t, "behind them", h, "f-k@1", "")
}

// Of several pointers the one that was set last counts; where something is owned none does.
func TestP1402DoElseSeveral(t *testing.T) {
	h := owns(t, "c-m@1")
	lose(h, "c-m", 3)
	is(t, "Win", h.Win(span("e-h"), 2), api.OK)
	tells(t, "owned again", h, api.Ask{Op: api.Get, Key: "f"}, api.Told{Errno: api.ErrNone})
	lose(h, "e-h", 5)
	for k, to := range map[string]int{"c": 3, "dz": 3, "e": 5, "g": 5, "h": 3, "l": 3, "m": -1} {
		tells(t, "lost twice", h, api.Ask{Op: api.Get, Key: k}, api.Told{Errno: api.ErrElse, Node: to})
	}
	for range api.Forward {
		h.Tick()
	}
	for _, k := range []string{"c", "e", "h"} {
		tells(t, "too long ago", h, api.Ask{Op: api.Get, Key: k}, api.Told{Errno: api.ErrElse, Node: -1})
	}
}

// What is frozen is not read, nor written; behind a Thaw it is.
func TestP1402DoBusy(t *testing.T) {
	h := fill(t, owns(t, "c-m@1"), "d f k")
	h.Freeze(span("e-h"))
	for _, a := range asks("e", "f", "fz", "gzz") {
		tells(t, "frozen", h, a, api.Told{Errno: api.ErrBusy})
	}
	tells(t, "ahead of it", h, api.Ask{Op: api.Get, Key: "d"}, api.Told{Value: "d"})
	tells(t, "behind it", h, api.Ask{Op: api.Get, Key: "k"}, api.Told{Value: "k"})
	tells(t, "at its To", h, api.Ask{Op: api.Put, Key: "h"}, api.Told{})
	tells(t, "a value that is too long", h, api.Ask{Op: api.Put, Key: "f", Value: long("v", 17)}, api.Told{Errno: api.ErrBusy})
	has(t, "frozen", h, "c-m@1", "d f h= k")
	h.Thaw()
	tells(t, "behind a Thaw", h, api.Ask{Op: api.Get, Key: "f"}, api.Told{Value: "f"})
	tells(t, "behind a Thaw", h, api.Ask{Op: api.Put, Key: "f", Value: "2"}, api.Told{})
	tells(t, "behind a Thaw", h, api.Ask{Op: api.Del, Key: "f"}, api.Told{})
}

// asks makes an ask of each Op of each key.
func asks(keys ...string) (l []api.Ask) {
	for _, k := range keys {
		for op := api.Get; op <= api.Scan; op++ {
			l = append(l, api.Ask{Op: op, Key: k, Value: "v", Most: 9})
		}
	}
	return l
}

// lose freezes an arc and gives it away.
func lose(h *hold.Hold, letters string, to int) {
	h.Freeze(span(letters))
	h.Lose(to)
}

// Get tells the value, or that there is none.
func TestP1402Get(t *testing.T) {
	h := owns(t, "c-f@1")
	put(h, "d", "one")
	put(h, "e", "")
	tells(t, "there", h, api.Ask{Op: api.Get, Key: "d"}, api.Told{Value: "one"})
	tells(t, "there, with no value", h, api.Ask{Op: api.Get, Key: "e"}, api.Told{})
	for _, k := range []string{"c", "d\x00", "dd", "ez"} {
		tells(t, "not there", h, api.Ask{Op: api.Get, Key: k}, api.Told{Errno: api.ErrNone})
	}
	tells(t, "what an ask has beside", h, api.Ask{Op: api.Get, Key: "d", Value: long("v", 99), To: "x", Most: 99}, api.Told{Value: "one"})
}

// Put gives a value to a key that is new, or is there.
func TestP1402Put(t *testing.T) {
	h := owns(t, "c-f@1")
	just := long("v", api.MaxValue)
	tells(t, "new", h, api.Ask{Op: api.Put, Key: "d", Value: "one"}, api.Told{})
	tells(t, "there", h, api.Ask{Op: api.Put, Key: "d", Value: "two"}, api.Told{})
	has(t, "twice", h, "c-f@1", "d=two")
	tells(t, "a value that just may be", h, api.Ask{Op: api.Put, Key: "e", Value: just}, api.Told{})
	tells(t, "one byte longer, of a new key", h, api.Ask{Op: api.Put, Key: "c", Value: just + "v"}, api.Told{Errno: api.ErrValue})
	tells(t, "one byte longer, of one that is there", h, api.Ask{Op: api.Put, Key: "d", Value: just + "v"}, api.Told{Errno: api.ErrValue})
	has(t, "behind them", h, "c-f@1", "d=two e="+just)
	tells(t, "what an ask has beside", h, api.Ask{Op: api.Put, Key: "d", Value: "3", To: "x", Most: 99}, api.Told{})
}

// A full one takes no new key, but a value for one that is there.
func TestP1402PutFull(t *testing.T) {
	h := hold.New(node, 3)
	h.Own(from(0, 0), 1)
	fill(t, h, "a b c")
	is(t, "a new one", put(h, "d", ""), api.ErrFull)
	is(t, "a new one, a long value", put(h, "d", long("v", 17)), api.ErrValue)
	is(t, "one that is there", put(h, "b", "2"), api.OK)
	is(t, "one that is there, a long value", put(h, "b", long("v", 17)), api.ErrValue)
	has(t, "full", h, "-@1", "a b=2 c")
	is(t, "Del", del(h, "a"), api.OK)
	is(t, "a new one again", put(h, "d", ""), api.OK)
	is(t, "one more", put(h, "e", ""), api.ErrFull)
	none := hold.New(node, 0)
	none.Own(from(0, 0), 1)
	is(t, "of most 0", put(none, "a", ""), api.ErrFull)
}

// Room that is kept is not there for a new key.
func TestP1402PutKept(t *testing.T) {
	h := hold.New(node, 4)
	h.Own(from(0, 0), 1)
	fill(t, h, "a")
	h.Keep(2)
	is(t, "up to just the most", put(h, "b", ""), api.OK)
	is(t, "one more", put(h, "c", ""), api.ErrFull)
	is(t, "one more, a long value", put(h, "c", long("v", 17)), api.ErrValue)
	is(t, "one that is there", put(h, "a", "2"), api.OK)
	is(t, "one that is there, a long value", put(h, "a", long("v", 17)), api.ErrValue)
	has(t, "two are kept", h, "-@1", "a=2 b=")
	h.Release(1)
	is(t, "one is let go", put(h, "c", ""), api.OK)
	is(t, "one more", put(h, "d", ""), api.ErrFull)
	is(t, "Del", del(h, "c"), api.OK)
	is(t, "Del makes room", put(h, "d", ""), api.OK)
	h.Release(1)
	is(t, "none is kept", put(h, "e", ""), api.OK)
	is(t, "full", put(h, "f", ""), api.ErrFull)
}

// All room is kept: there is none for a new key.
func TestP1402PutAllKept(t *testing.T) {
	h := hold.New(node, 2)
	h.Own(from(0, 0), 1)
	h.Keep(2)
	is(t, "all is kept", put(h, "a", ""), api.ErrFull)
	is(t, "Len", h.Len(), 0)
	h.Release(2)
	is(t, "all is let go", put(h, "a", ""), api.OK)
}

// Del takes a key away, once.
func TestP1402Del(t *testing.T) {
	h := fill(t, owns(t, "c-m@1"), "d e k")
	tells(t, "there", h, api.Ask{Op: api.Del, Key: "e", Value: long("v", 99), To: "x", Most: -9}, api.Told{})
	has(t, "one is gone", h, "c-m@1", "d k")
	tells(t, "twice", h, api.Ask{Op: api.Del, Key: "e"}, api.Told{Errno: api.ErrNone})
	tells(t, "never there", h, api.Ask{Op: api.Del, Key: "ee"}, api.Told{Errno: api.ErrNone})
	tells(t, "Get", h, api.Ask{Op: api.Get, Key: "e"}, api.Told{Errno: api.ErrNone})
	tells(t, "put again", h, api.Ask{Op: api.Put, Key: "e", Value: "2"}, api.Told{})
	tells(t, "there again", h, api.Ask{Op: api.Del, Key: "e"}, api.Told{})
	has(t, "behind them", h, "c-m@1", "d k")
}
