package give_test

import (
	"math"
	"strconv"
	"strings"
	"testing"

	"rosary/api"
	"rosary/give"
	"rosary/hold"
)

// starting holds a Start that may be against the Offer that it should send.
func starting(t *testing.T, what string, h *hold.Hold, arc string, epoch, n int) {
	t.Helper()
	g, l, e := give.Start(h, span(arc), me, to, id)
	is(t, what+": error", e, api.OK)
	sends(t, what, l, offer(arc, epoch, n))
	is(t, what+": Step", g.Step(), 1)
	is(t, what+": Id", g.Id(), id)
}

// startingNot holds a Start that may not be against an error, and nothing beside it.
func startingNot(t *testing.T, what string, h *hold.Hold, a api.Arc, to int, want api.Errno) {
	t.Helper()
	g, l, e := give.Start(h, a, me, to, id)
	if g != nil || len(l) != 0 || e != want {
		t.Errorf("%s: Start: %v, %v, %d, not %d", what, g, l, e, want)
	}
}

// An Offer tells the arc as it was handed in, how many items lie in it, and the epoch that comes behind the greatest one there.
func TestP1501Start(t *testing.T) {
	for _, c := range []struct {
		what, arcs, keys, arc string
		epoch, n              int
	}{
		{"all of what is owned", "c-k@4", "c d e", "c-k", 5, 3},
		{"a part in the middle", "c-k@4", "c d e f g h", "e-g", 5, 2},
		{"a part at the beginning", "c-k@4", "c d e f g h", "c-e", 5, 2},
		{"a part at the end", "c-k@4", "c d e f g h", "g-k", 5, 2},
		{"no items at all", "c-k@4", "", "c-k", 5, 0},
		{"no items in it", "c-k@4", "c d g", "e-g", 5, 0},
		{"one item", "c-k@4", "c d g", "d-e", 5, 1},
		{"as many as a chunk takes", "c-k@4", "c d e f g", "d-k", 5, 4},
		{"one more", "c-k@4", "c d e f g", "c-k", 5, 5},
		{"of epoch 0", "c-k@0", "c", "c-k", 1, 1},
		{"of another one's greater epoch too", "c-k@4 m-p@9", "c m", "c-k", 5, 1},
		{"side by side, the greater epoch first", "c-f@6 f-k@2", "c g", "c-k", 7, 2},
		{"side by side, the greater epoch last", "c-f@2 f-k@6", "c g", "c-k", 7, 2},
		{"side by side, the greater epoch in the middle", "c-f@2 f-h@8 h-k@3", "c g h", "d-j", 9, 2},
		{"side by side, of one alone", "c-f@2 f-k@6", "c g", "c-f", 3, 1},
		{"side by side, of a part of each", "c-f@2 f-k@6", "c e g h", "e-g", 7, 1},
		{"over the end", "x-c@4", "a b y z", "x-c", 5, 4},
		{"a part over the end", "x-f@4", "a b d x y z", "y-c", 5, 4},
		{"over the end, side by side", "x-@4 -f@5", "a d y", "y-e", 6, 3},
		{"up to the end", "x-c@4", "a y", "x-", 5, 1},
		{"from the end on", "x-c@4", "a y", "-c", 5, 1},
		{"the whole ring", "-@4", "a m z", "-", 5, 3},
		{"the whole ring from m on", "-@4", "a m z", "m-m", 5, 3},
		{"the whole ring of three", "x-c@4 c-m@1 m-x@2", "a d m z", "-", 5, 4},
		{"a part of the whole ring", "m-m@4", "a l m z", "l-n", 5, 2},
	} {
		starting(t, c.what, holds(t, c.arcs, c.keys), c.arc, c.epoch, c.n)
	}
}

// Who gives, to whom, and the number are told as they were handed in.
func TestP1501StartWho(t *testing.T) {
	for _, c := range []struct{ me, to, id int }{{1, 2, 3}, {0, 1, 0}, {1, 0, 1}, {-1, 1, -1}, {255, 256, 65536}, {math.MaxInt, math.MinInt, math.MaxInt}, {0, -1, math.MinInt}} {
		what := "Start of " + strconv.Itoa(c.me) + " to " + strconv.Itoa(c.to)
		h := holds(t, "c-k@4", "d")
		g, l, e := give.Start(h, span("c-k"), c.me, c.to, c.id)
		is(t, what+": error", e, api.OK)
		sends(t, what, l, api.Letter{Kind: api.KindOffer, From: c.me, To: c.to, Id: c.id, Arc: span("c-k"), Epoch: 5, N: 1})
		is(t, what+": Id", g.Id(), c.id)
		l, over := g.Got(api.Letter{Kind: api.KindAccept, From: c.to, To: c.me, Id: c.id, N: 1})
		sends(t, what+", Accept", l, api.Letter{Kind: api.KindChunk, From: c.me, To: c.to, Id: c.id, N: 1, Items: []api.Item{{Key: "d", Value: "d"}}})
		is(t, what+": over", over, false)
		l, _ = g.Got(api.Letter{Kind: api.KindGot, From: c.to, To: c.me, Id: c.id, N: 1})
		sends(t, what+", Got", l, api.Letter{Kind: api.KindCommit, From: c.me, To: c.to, Id: c.id, Arc: span("c-k"), Epoch: 5})
		l, over = g.Got(api.Letter{Kind: api.KindDone, From: c.to, To: c.me, Id: c.id})
		sends(t, what+", Done", l)
		is(t, what+": over", over, true)
		if told := get(h, "d"); told.Errno != api.ErrElse || told.Node != c.to {
			t.Errorf("%s: Get behind Done: %+v", what, told)
		}
	}
}

// The last one of the ring's points can be given, and all but it.
func TestP1501StartEnds(t *testing.T) {
	for _, a := range []api.Arc{{From: end}, {From: 0, To: end}, {From: 0, To: 1}, {From: 1}, {From: end, To: 1}, {From: 1, To: end}, {From: end, To: end}} {
		h := holds(t, "-@4", "k")
		put(h, strings.Repeat("\xff", 8), "")
		put(h, "\x00", "")
		want := 0
		for _, x := range []uint64{0, at("k"), end} {
			if a.From == a.To || x-a.From < a.To-a.From {
				want++
			}
		}
		_, l, e := give.Start(h, a, me, to, id)
		is(t, "error", e, api.OK)
		sends(t, "Start", l, api.Letter{Kind: api.KindOffer, From: me, To: to, Id: id, Arc: a, Epoch: 5, N: want})
	}
}

// A nil hold, and one to whom it is given who is it who gives, are told ErrArg, whatever else is wrong.
func TestP1501StartArg(t *testing.T) {
	h := holds(t, "c-k@4", "d")
	startingNot(t, "nil", nil, span("c-k"), to, api.ErrArg)
	startingNot(t, "nil, the whole ring", nil, api.Arc{}, to, api.ErrArg)
	startingNot(t, "nil, to me", nil, span("c-k"), me, api.ErrArg)
	startingNot(t, "zero", &hold.Hold{}, span("c-k"), to, api.ErrArg)
	startingNot(t, "to me", h, span("c-k"), me, api.ErrArg)
	startingNot(t, "to me, of what is not owned", h, span("c-m"), me, api.ErrArg)
	is(t, "nothing is frozen", free(h), true)
	has(t, "to me", h, "c-k@4", "d")
	starts(t, h, "c-f")
	startingNot(t, "to me, while something is frozen", h, span("f-k"), me, api.ErrArg)
}

// An arc of which not all is owned is not given, and nothing is frozen.
func TestP1501StartNotOwned(t *testing.T) {
	for _, c := range []struct{ what, arcs, arc string }{
		{"nothing is owned", "", "c-k"},
		{"nothing is owned, the whole ring", "", "-"},
		{"elsewhere", "c-k@4", "m-p"},
		{"more at the end", "c-k@4", "c-l"},
		{"more at the beginning", "c-k@4", "b-k"},
		{"around it", "c-k@4", "b-l"},
		{"the others", "c-k@4", "k-c"},
		{"the whole ring", "c-k@4", "-"},
		{"the whole ring from its beginning on", "c-k@4", "c-c"},
		{"over the end", "c-k@4", "j-d"},
		{"a gap", "c-f@4 g-k@4", "c-k"},
		{"a gap over the end", "x-@4 a-c@4", "x-c"},
		{"the whole ring with a gap", "m-k@4", "m-m"},
	} {
		h := holds(t, c.arcs, "")
		startingNot(t, c.what, h, span(c.arc), to, api.ErrArg)
		is(t, c.what+": nothing is frozen", free(h), true)
	}
	h := hold.New(me, 9)
	h.Own(api.Arc{From: 5, To: 9}, 4)
	startingNot(t, "one point less", h, api.Arc{From: 4, To: 9}, to, api.ErrArg)
	startingNot(t, "one point more", h, api.Arc{From: 5, To: 10}, to, api.ErrArg)
	_, _, e := give.Start(h, api.Arc{From: 5, To: 9}, me, to, id)
	is(t, "just all of it", e, api.OK)
}

// While something is frozen nothing else is given, ErrBusy ahead of ErrArg; what is frozen stays.
func TestP1501StartBusy(t *testing.T) {
	h := holds(t, "c-k@4", "d g")
	g := starts(t, h, "c-f")
	startingNot(t, "the same", h, span("c-f"), to, api.ErrBusy)
	startingNot(t, "beside it", h, span("f-k"), to, api.ErrBusy)
	startingNot(t, "what is not owned", h, span("m-p"), to, api.ErrBusy)
	startingNot(t, "to another one", h, span("f-k"), to+1, api.ErrBusy)
	is(t, "what is frozen", get(h, "d").Errno, api.ErrBusy)
	is(t, "what is not", get(h, "g").Errno, api.OK)
	gets(t, "it goes on", g, accept(1), 2, chunk(1, "d"))
	g.Stop()
	starting(t, "again", h, "f-k", 5, 1)

	h = holds(t, "c-k@4", "d g")
	h.Freeze(span("d-e"))
	startingNot(t, "frozen by another hand", h, span("f-k"), to, api.ErrBusy)
	is(t, "what was frozen", get(h, "d").Errno, api.ErrBusy)
}

// When one is over, another one may begin, of what is left.
func TestP1501StartAgain(t *testing.T) {
	h, _ := in(t, 4)
	startingNot(t, "what was given", h, span("c-k"), to, api.ErrArg)
	starting(t, "ahead of it", h, "b-c", 5, 2)
	h, _ = in(t, 5)
	starting(t, "the same behind a Stop", h, "c-k", 5, 6)
	h, g := in(t, 1)
	g.Got(accept(0))
	starting(t, "the same behind a no", h, "c-k", 5, 6)
}
