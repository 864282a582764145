package hold_test

import (
	"math"
	"strconv"
	"testing"

	"rosary/api"
	"rosary/hold"
)

// An arc is won with its items: it is owned as of the epoch, they are there.
func TestP1403Win(t *testing.T) {
	h := fill(t, owns(t, "c-f@2"), "d")
	is(t, "with none", h.Win(span("x-b"), 2), api.OK)
	has(t, "with none", h, "c-f@2 x-b@2", "d")
	is(t, "with some", h.Win(span("f-k"), 7, items("j f g")...), api.OK)
	has(t, "with some", h, "c-f@2 f-k@7 x-b@2", "d f g j")
	is(t, "of epoch 0, with no value", h.Win(span("k-m"), 0, api.Item{Key: "k"}), api.OK)
	has(t, "of epoch 0", h, "c-f@2 f-k@7 k-m@0 x-b@2", "d f g j k=")
	is(t, "of the same epoch", h.Win(span("b-c"), 2, items("b bzz")...), api.OK)
	has(t, "of the same epoch", h, "f-k@7 k-m@0 x-f@2", "b bzz d f g j k=")
	is(t, "Epoch", h.Epoch(), 7)
	tells(t, "read", h, api.Ask{Op: api.Get, Key: "g"}, api.Told{Value: "g"})
	whole := hold.New(node, 9)
	is(t, "the whole ring", whole.Win(span("m-m"), 4, items("z a m")...), api.OK)
	has(t, "the whole ring", whole, "-@4", "a m z")
}

// The same key twice is put twice: the later value stays.
func TestP1403WinTwice(t *testing.T) {
	h := hold.New(node, 2)
	is(t, "Win", h.Win(span("c-f"), 1, api.Item{Key: "d", Value: "1"}, api.Item{Key: "e", Value: "2"}, api.Item{Key: "d", Value: "3"}), api.OK)
	has(t, "Win", h, "c-f@1", "d=3 e=2")
}

// What Own would not own is not won, nor what has an item of elsewhere.
func TestP1403WinArg(t *testing.T) {
	for _, c := range []struct {
		what, arc string
		epoch     int
		l         []api.Item
	}{
		{"the same arc", "c-f", 9, nil},
		{"one point of it", "b-d", 9, items("b")},
		{"within it", "d-e", 9, nil},
		{"around it", "b-m", 9, items("b")},
		{"the whole ring", "m-m", 9, nil},
		{"an epoch of -1", "f-k", -1, items("g")},
		{"the least epoch", "f-k", math.MinInt, nil},
		{"an item ahead of it", "f-k", 9, items("g d")},
		{"an item at its To", "f-k", 9, items("g k")},
		{"an item behind it", "f-k", 9, items("x g")},
		{"an item with no key", "f-k", 9, items("g")[:1:1]},
		{"an item ahead of it, one that may not be", "f-k", 9, items(long("g", 17) + " d")},
		{"an item elsewhere that may not be", "f-k", 9, items("g " + long("x", 17))},
		{"over the end, an item behind it", "x-b", 9, items("a b")},
		{"over the end, an item ahead of it", "x-b", 9, items("wzz a")},
		{"more than there is room for, one of them elsewhere", "f-k", 9, items("g h i j x")},
	} {
		h := hold.New(node, 4)
		h.Own(span("c-f"), 2)
		fill(t, h, "d")
		h.Keep(3)
		if c.what == "an item with no key" {
			c.l = append(c.l, api.Item{Value: "v"})
		}
		is(t, c.what, h.Win(span(c.arc), c.epoch, c.l...), api.ErrArg)
		has(t, c.what, h, "c-f@2", "d")
		is(t, c.what+": no more room", h.Keep(1), false)
	}
}

// The first error of a Put counts, and nothing is changed.
func TestP1403WinIn(t *testing.T) {
	longKey, longValue := api.Item{Key: long("g", 17)}, api.Item{Key: "g", Value: long("v", 17)}
	for _, c := range []struct {
		what string
		l    []api.Item
		want api.Errno
	}{
		{"a key that may not be", append(items("g h"), longKey), api.ErrKey},
		{"a value that may not be", append(items("g h"), longValue), api.ErrValue},
		{"both, the key first", []api.Item{longKey, longValue}, api.ErrKey},
		{"both, the value first", []api.Item{longValue, longKey}, api.ErrValue},
		{"more than there is room for", items("g h i j"), api.ErrFull},
		{"more than there is room for, and a key", append(items("g h i j"), longKey), api.ErrFull},
		{"a key, and more than there is room for", append([]api.Item{longKey}, items("g h i j")...), api.ErrKey},
	} {
		h := hold.New(node, 4)
		h.Own(span("c-f"), 2)
		fill(t, h, "d")
		h.Keep(3)
		is(t, c.what, h.Win(span("f-k"), 9, c.l...), c.want)
		has(t, c.what, h, "c-f@2", "d")
		is(t, c.what+": Has", h.Has(at("g")), false)
		is(t, c.what+": no more room", h.Keep(1), false)
		is(t, c.what+": just as many", h.Win(span("f-k"), 9, items("g h i")...), api.OK)
		has(t, c.what+": just as many", h, "c-f@2 f-k@9", "d g h i")
	}
	none := hold.New(node, 9)
	is(t, "no key, in its arc", none.Win(span("-b"), 1, api.Item{Value: "v"}), api.ErrKey)
	has(t, "no key, in its arc", none, "", "")
}

// So much less room is kept behind it; never below none.
func TestP1403WinKept(t *testing.T) {
	for _, c := range []struct {
		what       string
		kept       int
		l          string
		room, left int // left is what is kept still
	}{
		{"none are kept", 0, "g h", 8, 0},
		{"fewer are kept", 1, "g h", 8, 0},
		{"just as many are kept", 2, "g h", 8, 0},
		{"more are kept", 5, "g h", 5, 3},
		{"with none", 5, "", 5, 5},
		{"all is kept", 10, "g h", 0, 8},
	} {
		h := hold.New(node, 10)
		h.Keep(c.kept)
		is(t, c.what, h.Win(span("f-k"), 1, items(c.l)...), api.OK)
		roomIs(t, c.what, h, c.room)
		h.Release(c.left)
		roomIs(t, c.what+": all is let go", h, c.room+c.left)
		h.Release(1)
		roomIs(t, c.what+": no more than that", h, c.room+c.left)
	}
}

// Win may fill the room that is kept; a Put may not.
func TestP1403WinFull(t *testing.T) {
	h := hold.New(node, 3)
	h.Own(span("c-f"), 1)
	h.Keep(3)
	is(t, "Put", put(h, "d", ""), api.ErrFull)
	is(t, "Win", h.Win(span("f-k"), 1, items("f g h")...), api.OK)
	has(t, "Win", h, "c-k@1", "f g h")
	is(t, "Put", put(h, "d", ""), api.ErrFull)
	is(t, "Win of one more", h.Win(span("k-m"), 1, items("k")...), api.ErrFull)
	is(t, "Win of none", h.Win(span("k-m"), 1), api.OK)
	has(t, "Win of none", h, "c-m@1", "f g h")
}

// What is frozen hinders no Own or Win beside it.
func TestP1403WinFrozen(t *testing.T) {
	h := fill(t, owns(t, "c-f@1"), "d")
	h.Freeze(span("c-f"))
	is(t, "Win", h.Win(span("f-k"), 2, items("g")...), api.OK)
	is(t, "Own", h.Own(span("a-c"), 2), true)
	tells(t, "won", h, api.Ask{Op: api.Get, Key: "g"}, api.Told{Value: "g"})
	scans(t, "up to what is frozen", h, "a", "", 9, "", "c")
	is(t, "Win of what is frozen", h.Win(span("d-e"), 2), api.ErrArg)
	is(t, "Lose", h.Lose(3), api.OK)
	has(t, "lost", h, "a-c@2 f-k@2", "g")
	is(t, "Win of what was lost", h.Win(span("c-f"), 3, items("e")...), api.OK)
	has(t, "won again", h, "a-c@2 c-f@3 f-k@2", "e g")
	tells(t, "won again", h, api.Ask{Op: api.Get, Key: "e"}, api.Told{Value: "e"})
}

// Room is kept for as many as there is room for, beside items and what is kept.
func TestP1403Keep(t *testing.T) {
	h := hold.New(node, 10)
	for _, n := range []int{-1, -9, math.MinInt, 11, 12, math.MaxInt} {
		is(t, "Keep "+strconv.Itoa(n), h.Keep(n), false)
	}
	roomIs(t, "behind what may not be", h, 10)
	is(t, "none", h.Keep(0), true)
	is(t, "four", h.Keep(4), true)
	is(t, "seven more", h.Keep(7), false)
	is(t, "six more", h.Keep(6), true)
	is(t, "one more", h.Keep(1), false)
	is(t, "none more", h.Keep(0), true)
	is(t, "the greatest number", h.Keep(math.MaxInt), false)
	is(t, "below 0", h.Keep(-1), false)
	h.Release(10)
	h.Own(span("c-f"), 1)
	fill(t, h, "c d e")
	is(t, "eight beside three", h.Keep(8), false)
	is(t, "seven beside three", h.Keep(7), true)
	is(t, "one more beside them", h.Keep(1), false)
	del(h, "d")
	is(t, "two beside them", h.Keep(2), false)
	is(t, "one beside them", h.Keep(1), true)
}

// One with no room keeps none.
func TestP1403KeepNone(t *testing.T) {
	for _, most := range []int{0, -1, math.MinInt} {
		h := hold.New(node, most)
		is(t, "none", h.Keep(0), true)
		is(t, "one", h.Keep(1), false)
	}
	great := hold.New(node, math.MaxInt)
	is(t, "more than MaxItems", great.Keep(api.MaxItems+1), false)
	is(t, "MaxItems", great.Keep(api.MaxItems), true)
}

// So much less room is kept; never below none, and a number below 0 lets none go.
func TestP1403Release(t *testing.T) {
	for _, c := range []struct{ kept, n, room int }{
		{6, 0, 4}, {6, 1, 5}, {6, 5, 9}, {6, 6, 10}, {6, 7, 10}, {6, math.MaxInt, 10}, {6, -1, 4}, {6, -9, 4}, {6, math.MinInt, 4}, {0, 3, 10}, {10, 3, 3}, {10, -3, 0},
	} {
		h := hold.New(node, 10)
		h.Keep(c.kept)
		h.Release(c.n)
		roomIs(t, strconv.Itoa(c.kept)+" kept, Release "+strconv.Itoa(c.n), h, c.room)
	}
}

// A pointer goes behind just so many ticks.
func TestP1403Tick(t *testing.T) {
	h := owns(t, "c-m@1")
	lose(h, "c-e", 3)
	sent := func(what, k string, to int) {
		t.Helper()
		tells(t, what, h, api.Ask{Op: api.Get, Key: k}, api.Told{Errno: api.ErrElse, Node: to})
	}
	for range 10 {
		h.Tick()
	}
	lose(h, "e-g", 4)
	for n := 11; n < api.Forward; n++ {
		h.Tick()
		sent("ahead of tick 40", "d", 3)
	}
	h.Tick()
	sent("at tick 40", "d", -1)
	for range 9 {
		h.Tick()
		sent("ten ticks younger", "f", 4)
	}
	h.Tick()
	sent("forty ticks old", "f", -1)
	h.Freeze(span("g-k"))
	for range 100 {
		h.Tick()
	}
	tells(t, "frozen however long", h, api.Ask{Op: api.Get, Key: "g"}, api.Told{Errno: api.ErrBusy})
	has(t, "however long", h, "g-m@1", "")
}
