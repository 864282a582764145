package hold_test

import (
	"math"
	"strconv"
	"testing"

	"rosary/api"
	"rosary/hold"
)

// A new one owns nothing, has nothing, and takes as many as it was made for, up to MaxItems.
func TestP1401New(t *testing.T) {
	for _, c := range []struct{ most, room int }{{0, 0}, {1, 1}, {50, 50}, {199, 199}, {200, 200}, {201, 200}, {math.MaxInt, 200}, {-1, 0}, {math.MinInt, 0}} {
		what := "New of most " + strconv.Itoa(c.most)
		h := hold.New(node, c.most)
		has(t, what, h, "", "")
		isText(t, what+": Pieces", spell(h.Pieces()), "")
		is(t, what+": Epoch", h.Epoch(), 0)
		roomIs(t, what, h, c.room)
		for _, x := range []uint64{0, 1, 1 << 63, end} {
			is(t, what+": Has", h.Has(x), false)
		}
		h.Own(from(0, 0), 0)
		put(h, "k", "")
		took := 0
		for n := range 202 {
			if put(h, "k"+strconv.Itoa(n), "") == api.OK {
				took++
			}
		}
		is(t, what+": items", h.Len(), c.room)
		is(t, what+": items beside the first", took, max(c.room-1, 0))
	}
}

// What is owned is of the hold's own node, whatever that is.
func TestP1401NewNode(t *testing.T) {
	for _, n := range []int{0, 1, 15, -1, math.MaxInt, math.MinInt} {
		h := hold.New(n, 9)
		h.Own(span("a-b"), 1)
		h.Own(span("b-c"), 2)
		is(t, "Arcs", h.Arcs()[0].Node, n)
		is(t, "Arcs", h.Arcs()[1].Node, n)
		is(t, "Pieces", h.Pieces()[0].Node, n)
	}
}

// Len and Items tell what the shelf has, rising.
func TestP1401LenItems(t *testing.T) {
	h := fill(t, owns(t, "c-f@1 x-b@2"), "d c y a e z")
	has(t, "six", h, "c-f@1 x-b@2", "a c d e y z")
	del(h, "d")
	has(t, "five", h, "c-f@1 x-b@2", "a c e y z")
	put(h, "a", "new")
	has(t, "five, one with another value", h, "c-f@1 x-b@2", "a=new c e y z")
}

// An arc is owned from its first point on, up to its To.
func TestP1401Own(t *testing.T) {
	for _, c := range []struct {
		what    string
		arc     api.Arc
		in, out []uint64
		arcs    string
	}{
		{"an ordinary one", from(5, 9), []uint64{5, 6, 8}, []uint64{4, 9, 10, 0, end}, "5-9@3"},
		{"one point", from(5, 6), []uint64{5}, []uint64{4, 6, 0, end}, "5-6@3"},
		{"the point 0", from(0, 1), []uint64{0}, []uint64{1, 2, end}, "-1@3"},
		{"the greatest point", from(end, 0), []uint64{end}, []uint64{end - 1, 0, 1}, "18446744073709551615-@3"},
		{"over the end", from(9, 5), []uint64{9, 10, end, 0, 4}, []uint64{5, 6, 8}, "9-5@3"},
		{"all but one point", from(6, 5), []uint64{6, end, 0, 4}, []uint64{5}, "6-5@3"},
		{"up to the end", from(9, 0), []uint64{9, 10, end}, []uint64{8, 0, 1}, "9-@3"},
		{"the whole ring from 0 on", from(0, 0), []uint64{0, 1, 1 << 63, end}, nil, "-@3"},
		{"the whole ring from 5 on", from(5, 5), []uint64{0, 4, 5, 6, end}, nil, "-@3"},
		{"the whole ring from the greatest point on", from(end, end), []uint64{0, 1, end - 1, end}, nil, "-@3"},
	} {
		h := hold.New(node, 9)
		is(t, c.what+": Own", h.Own(c.arc, 3), true)
		isText(t, c.what+": Arcs", spell(h.Arcs()), c.arcs)
		isText(t, c.what+": Pieces", spell(h.Pieces()), c.arcs)
		is(t, c.what+": Epoch", h.Epoch(), 3)
		for _, x := range c.in {
			is(t, c.what+": Has "+point(x), h.Has(x), true)
			is(t, c.what+": Own of "+point(x)+" again", h.Own(from(x, x+1), 3), false)
		}
		for _, x := range c.out {
			is(t, c.what+": Has "+point(x), h.Has(x), false)
		}
		for _, x := range c.out {
			is(t, c.what+": Own of "+point(x), h.Own(from(x, x+1), 9), true)
		}
	}
}

// What meets an arc that is owned, in one point or in more, isn't owned, and changes nothing.
func TestP1401OwnMeets(t *testing.T) {
	for _, c := range []struct {
		what, owned, arc string
		want             bool
	}{
		{"the same", "c-k@1", "c-k", false},
		{"its first point", "c-k@1", "b-d", false},
		{"its last one", "c-k@1", "j-m", false},
		{"within it", "c-k@1", "e-g", false},
		{"around it", "c-k@1", "b-m", false},
		{"around it, over the end", "c-k@1", "m-l", false},
		{"the whole ring", "c-k@1", "-", false},
		{"the whole ring from within it on", "c-k@1", "e-e", false},
		{"the whole ring from behind it on", "c-k@1", "m-m", false},
		{"where it ends", "c-k@1", "k-m", true},
		{"up to where it begins", "c-k@1", "b-c", true},
		{"all the others", "c-k@1", "k-c", true},
		{"elsewhere", "c-k@1", "m-p", true},
		{"elsewhere, over the end", "c-k@1", "m-b", true},
		{"the same, over the end", "p-c@1", "p-c", false},
		{"within it, behind the end", "p-c@1", "a-b", false},
		{"within it, ahead of the end", "p-c@1", "r-s", false},
		{"within it, over the end", "p-c@1", "r-b", false},
		{"around it, over the end", "p-c@1", "m-d", false},
		{"both of its ends", "p-c@1", "b-r", false},
		{"between its ends", "p-c@1", "c-p", true},
		{"beside the whole ring", "m-m@1", "a-b", false},
		{"the whole ring twice", "m-m@1", "-", false},
		{"of several the second one", "c-e@1 k-m@1", "l-p", false},
		{"of several the last one", "c-e@1 k-m@2 p-r@3", "n-q", false},
		{"of several the first one, over the end", "c-e@1 k-m@2 p-r@3", "s-d", false},
		{"between several", "c-e@1 k-m@1", "e-k", true},
		{"around several", "c-e@1 k-m@1", "b-p", false},
	} {
		h := owns(t, c.owned)
		arcs := spell(h.Arcs())
		is(t, c.what, h.Own(span(c.arc), 8), c.want)
		if !c.want {
			isText(t, c.what+": Arcs", spell(h.Arcs()), arcs)
		}
	}
}

// They meet in just one point, or in none.
func TestP1401OwnOnePoint(t *testing.T) {
	h := hold.New(node, 9)
	is(t, "the first", h.Own(from(5, 9), 1), true)
	is(t, "meets 5", h.Own(from(3, 6), 1), false)
	is(t, "meets 8", h.Own(from(8, 12), 1), false)
	is(t, "up to 5", h.Own(from(3, 5), 1), true)
	is(t, "from 9 on", h.Own(from(9, 12), 1), true)
	isText(t, "Arcs", spell(h.Arcs()), "3-12@1")
}

// An epoch below 0 may not be; 0 and the greatest number may.
func TestP1401OwnEpoch(t *testing.T) {
	for _, c := range []struct {
		epoch int
		want  bool
	}{{0, true}, {1, true}, {math.MaxInt, true}, {-1, false}, {math.MinInt, false}} {
		h := hold.New(node, 9)
		is(t, "Own", h.Own(span("c-f"), c.epoch), c.want)
		is(t, "Has", h.Has(at("c")), c.want)
		if c.want {
			is(t, "Epoch", h.Epoch(), c.epoch)
			is(t, "the epoch of Arcs", h.Arcs()[0].Epoch, c.epoch)
			is(t, "the epoch of Pieces", h.Pieces()[0].Epoch, c.epoch)
		} else {
			has(t, "below 0", h, "", "")
		}
	}
}

// Arcs puts together what follows one another as of the same epoch, Pieces whatever the epochs are.
func TestP1401ArcsPieces(t *testing.T) {
	for _, c := range []struct{ what, owned, arcs, pieces string }{
		{"none", "", "", ""},
		{"one", "c-f@2", "c-f@2", "c-f@2"},
		{"two apart", "p-r@1 c-f@2", "c-f@2 p-r@1", "c-f@2 p-r@1"},
		{"two, the same epoch", "c-f@2 f-k@2", "c-k@2", "c-k@2"},
		{"two, the later one first", "f-k@2 c-f@2", "c-k@2", "c-k@2"},
		{"two, unlike epochs", "c-f@2 f-k@3", "c-f@2 f-k@3", "c-k@3"},
		{"two, the greater epoch first", "c-f@3 f-k@2", "c-f@3 f-k@2", "c-k@3"},
		{"three, the middle one last", "c-f@2 k-m@2 f-k@2", "c-m@2", "c-m@2"},
		{"three, the middle one another epoch", "c-f@2 k-m@2 f-k@5", "c-f@2 f-k@5 k-m@2", "c-m@5"},
		{"three, two of the same epoch", "c-f@2 f-k@2 k-m@1", "c-k@2 k-m@1", "c-m@2"},
		{"a gap between", "c-f@2 f-k@2 m-p@2 p-r@4", "c-k@2 m-p@2 p-r@4", "c-k@2 m-r@4"},
		{"the same epoch, a gap between", "c-f@2 g-k@2", "c-f@2 g-k@2", "c-f@2 g-k@2"},
		{"over the end", "x-c@2", "x-c@2", "x-c@2"},
		{"over the end, beside others", "x-c@2 d-f@1 m-p@3", "d-f@1 m-p@3 x-c@2", "d-f@1 m-p@3 x-c@2"},
		{"over the end, beside others, owned last", "m-p@3 d-f@1 x-c@2", "d-f@1 m-p@3 x-c@2", "d-f@1 m-p@3 x-c@2"},
		{"put together over the end", "-c@2 x-@2", "x-c@2", "x-c@2"},
		{"put together over the end, beside others", "-c@2 x-@2 d-f@1", "d-f@1 x-c@2", "d-f@1 x-c@2"},
		{"not over the end, unlike epochs", "-c@2 x-@3", "-c@2 x-@3", "x-c@3"},
		{"over the end, beside others, unlike epochs", "-c@4 x-@3 d-f@1", "-c@4 d-f@1 x-@3", "d-f@1 x-c@4"},
		{"more behind the one over the end", "x-c@2 c-f@2 s-x@2", "s-f@2", "s-f@2"},
		{"more behind it, unlike epochs", "x-c@2 c-f@1 s-x@2", "c-f@1 s-c@2", "s-f@2"},
		{"up to the end", "x-@2", "x-@2", "x-@2"},
		{"from 0 on", "-c@2", "-c@2", "-c@2"},
		{"the whole ring", "m-m@2", "-@2", "-@2"},
		{"the whole ring of two", "c-m@2 m-c@2", "-@2", "-@2"},
		{"the whole ring of two, over the end first", "m-c@2 c-m@2", "-@2", "-@2"},
		{"the whole ring of two that meet at 0", "m-@2 -m@2", "-@2", "-@2"},
		{"the whole ring of four", "p-@2 c-m@2 -c@2 m-p@2", "-@2", "-@2"},
		{"the whole ring, unlike epochs", "c-m@2 m-c@3", "c-m@2 m-c@3", "-@3"},
		{"the whole ring, unlike epochs, from 0 on", "-m@5 m-@3", "-m@5 m-@3", "-@5"},
		{"the whole ring, two of the same epoch over the end", "-c@2 c-m@3 m-@2", "c-m@3 m-c@2", "-@3"},
		{"the whole ring, one of another epoch over the end", "c-m@2 m-p@2 p-c@3", "c-p@2 p-c@3", "-@3"},
		{"the whole ring, three epochs", "m-p@1 p-c@2 c-m@3", "c-m@3 m-p@1 p-c@2", "-@3"},
		{"of epoch 0", "c-f@0 f-k@0 k-m@1", "c-k@0 k-m@1", "c-m@1"},
	} {
		h := owns(t, c.owned)
		isText(t, c.what+": Arcs", spell(h.Arcs()), c.arcs)
		isText(t, c.what+": Pieces", spell(h.Pieces()), c.pieces)
		isText(t, c.what+": Arcs again", spell(h.Arcs()), c.arcs)
	}
}

// In whatever order they were owned, what is told is the same.
func TestP1401ArcsOrders(t *testing.T) {
	parts := []struct {
		arc   string
		epoch int
	}{{"c-f", 2}, {"f-k", 2}, {"k-m", 1}, {"p-s", 2}, {"s-", 2}, {"-b", 2}}
	for _, o := range orders(len(parts)) {
		h := hold.New(node, 9)
		for _, n := range o {
			is(t, "Own", h.Own(span(parts[n].arc), parts[n].epoch), true)
		}
		isText(t, "Arcs", spell(h.Arcs()), "c-k@2 k-m@1 p-b@2")
		isText(t, "Pieces", spell(h.Pieces()), "c-m@2 p-b@2")
	}
}

// orders goes through all orders of so many things.
func orders(count int) (all [][]int) {
	if count == 0 {
		return [][]int{nil}
	}
	for _, o := range orders(count - 1) {
		for n := range count {
			next := append([]int{}, o[:n]...)
			all = append(all, append(append(next, count-1), o[n:]...))
		}
	}
	return all
}

// A point is owned from an arc's first one on, up to its last one.
func TestP1401Has(t *testing.T) {
	h := hold.New(node, 9)
	h.Own(from(5, 9), 1)
	h.Own(from(20, 30), 2)
	h.Own(from(end, 2), 3)
	for _, x := range []uint64{5, 8, 20, 29, end, 0, 1} {
		is(t, "Has "+point(x), h.Has(x), true)
	}
	for _, x := range []uint64{4, 9, 19, 30, end - 1, 2, 1 << 63} {
		is(t, "Has "+point(x), h.Has(x), false)
	}
}

// Epoch is the greatest one of all, wherever it is.
func TestP1401Epoch(t *testing.T) {
	for _, c := range []struct {
		owned string
		want  int
	}{
		{"", 0}, {"c-f@0", 0}, {"c-f@4", 4}, {"c-f@4 k-m@9 p-r@1", 9}, {"c-f@9 k-m@4", 9}, {"c-f@1 k-m@4 x-b@5", 5}, {"x-b@5 c-f@1", 5},
	} {
		is(t, c.owned, owns(t, c.owned).Epoch(), c.want)
	}
}

// What is lost counts no more.
func TestP1401EpochLost(t *testing.T) {
	h := owns(t, "c-f@4 f-k@9")
	freezes(t, "the greater one", h, span("f-k"), "", 9)
	is(t, "frozen", h.Epoch(), 9)
	h.Lose(1)
	is(t, "lost", h.Epoch(), 4)
	freezes(t, "the other one", h, span("c-f"), "", 4)
	h.Lose(1)
	is(t, "all lost", h.Epoch(), 0)
}
