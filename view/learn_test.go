package view_test

import (
	"math"
	"slices"
	"strconv"
	"testing"

	"rosary/api"
	"rosary/view"
)

func TestP1101Zero(t *testing.T) {
	knowsNothing(t, "a zero view", &view.View{})
	var v view.View
	knowsNothing(t, "a variable", &v)
	learns(t, "a variable", &v, has(5, 9, 2, 1), true, has(5, 9, 2, 1))
	knowsNothing(t, "another one", new(view.View))
}

func TestP1101Example(t *testing.T) {
	v := &view.View{}
	learns(t, "the ring", v, has(0, 0, 1, 0), true, has(0, 0, 1, 0))
	learns(t, "a part of it", v, has(5, 9, 2, 1), true, has(5, 9, 2, 1), has(9, 5, 1, 0))
	owns(t, "the example", v, has(9, 5, 1, 0), 9, 10, end, 0, 4)
	owns(t, "the example", v, has(5, 9, 2, 1), 5, 6, 8)
}

// TestP1101Epoch: from 0 on, and none below.
func TestP1101Epoch(t *testing.T) {
	for _, epoch := range []int{0, 1, 2, 1000, math.MaxInt - 1, math.MaxInt} {
		what := "epoch " + strconv.Itoa(epoch)
		o := has(5, 9, 3, epoch)
		v := &view.View{}
		learns(t, what, v, o, true, o)
		owns(t, what, v, o, 5, 7, 8)
		ownsNone(t, what, v, 4, 9, 0, end)
		learns(t, what+" again", v, o, false, o)
		learns(t, what+" of another node", v, has(5, 9, 4, epoch), false, o)
	}
	for _, epoch := range []int{-1, -2, -1000, math.MinInt, math.MinInt + 1} {
		what := "epoch " + strconv.Itoa(epoch)
		v := &view.View{}
		for _, o := range []api.Owned{has(5, 9, 3, epoch), has(0, 0, 0, epoch), has(9, 5, 255, epoch)} {
			learns(t, what, v, o, false)
			knowsNothing(t, what, v)
		}
		v = told(has(5, 9, 3, 0))
		learns(t, what+", something is known", v, has(0, 0, 4, epoch), false, has(5, 9, 3, 0))
		ownsNone(t, what+", something is known", v, 4, 9, 0, end)
	}
}

// TestP1101Node: those from 0 to 255, and none beside them.
func TestP1101Node(t *testing.T) {
	for node := range 256 {
		what := "node " + strconv.Itoa(node)
		o := has(5, 9, node, 0)
		v := &view.View{}
		learns(t, what, v, o, true, o)
		owns(t, what, v, o, 5, 8)
		learns(t, what+", with a greater epoch", v, has(0, 0, node, 1), true, has(0, 0, node, 1))
		if got := v.Nodes(); !slices.Equal(got, []int{node}) {
			t.Errorf("%s: Nodes %v", what, got)
		}
	}
	for _, node := range []int{-1, -2, -255, -256, 256, 257, 511, 512, 1000, math.MaxInt, math.MinInt} {
		what := "node " + strconv.Itoa(node)
		v := &view.View{}
		learns(t, what, v, has(5, 9, node, 7), false)
		knowsNothing(t, what, v)
		learns(t, what+", the ring", v, has(0, 0, node, 7), false)
		knowsNothing(t, what+", the ring", v)
		v = told(has(5, 9, 3, 0))
		learns(t, what+", something is known", v, has(0, 0, node, 7), false, has(5, 9, 3, 0))
		ownsNone(t, what+", something is known", v, 4, 9, 0, end)
	}
	learns(t, "neither may be", &view.View{}, has(5, 9, 256, -1), false)
}

// TestP1101Arcs: of a zero view, arcs of all kinds.
func TestP1101Arcs(t *testing.T) {
	for _, c := range []struct {
		what     string
		arc      api.Arc
		in, none []uint64
	}{
		{"an ordinary one", api.Arc{From: 5, To: 9}, []uint64{5, 6, 7, 8}, []uint64{4, 9, 10, 0, end}},
		{"one point", api.Arc{From: 5, To: 6}, []uint64{5}, []uint64{4, 6, 0, end}},
		{"the point 0", api.Arc{From: 0, To: 1}, []uint64{0}, []uint64{1, 2, end}},
		{"the greatest point", api.Arc{From: end, To: 0}, []uint64{end}, []uint64{end - 1, 0, 1}},
		{"both", api.Arc{From: end, To: 1}, []uint64{end, 0}, []uint64{end - 1, 1, 2}},
		{"over the end", api.Arc{From: 9, To: 5}, []uint64{9, 10, end, 0, 1, 4}, []uint64{5, 6, 8}},
		{"all but one point", api.Arc{From: 6, To: 5}, []uint64{6, 7, end, 0, 4}, []uint64{5}},
		{"all but the point 0", api.Arc{From: 1, To: 0}, []uint64{1, 2, 1 << 63, end}, []uint64{0}},
		{"all but the greatest point", api.Arc{From: 0, To: end}, []uint64{0, 1, 1 << 63, end - 1}, []uint64{end}},
		{"from 0 on", api.Arc{From: 0, To: 9}, []uint64{0, 1, 8}, []uint64{9, 10, end}},
		{"up to the end", api.Arc{From: 9, To: 0}, []uint64{9, 10, end - 1, end}, []uint64{8, 0, 1}},
		{"up to the greatest point", api.Arc{From: 9, To: end}, []uint64{9, end - 1}, []uint64{end, 0, 8}},
		{"from the greatest point on", api.Arc{From: end, To: 9}, []uint64{end, 0, 8}, []uint64{end - 1, 9}},
		{"half of the ring", api.Arc{From: 1 << 63, To: 0}, []uint64{1 << 63, 1<<63 + 1, end}, []uint64{1<<63 - 1, 0}},
	} {
		v := &view.View{}
		o := api.Owned{Arc: c.arc, Node: 4, Epoch: 2}
		learns(t, c.what, v, o, true, o)
		owns(t, c.what, v, o, c.in...)
		ownsNone(t, c.what, v, c.none...)
		learns(t, c.what+", again", v, o, false, o)
	}
	for _, x := range []uint64{0, 1, 2, 9, 1 << 63, end - 1, end} {
		what := "the ring from " + strconv.FormatUint(x, 10) + " on"
		v := &view.View{}
		learns(t, what, v, has(x, x, 4, 2), true, has(0, 0, 4, 2))
		owns(t, what, v, has(0, 0, 4, 2), 0, 1, x-1, x, x+1, 1<<63, end)
		for _, y := range []uint64{0, 3, x, end} {
			learns(t, what+", again", v, has(y, y, 5, 2), false, has(0, 0, 4, 2))
		}
		learns(t, what+", over an elder part", told(has(5, 9, 2, 1)), has(x, x, 4, 2), true, has(0, 0, 4, 2))
	}
}

// TestP1101Lesser: at each point the greatest epoch counts, of the same one what was told first.
func TestP1101Lesser(t *testing.T) {
	known := []api.Owned{has(10, 20, 1, 3), has(20, 30, 2, 5), has(40, 50, 3, 4)}
	for _, c := range []struct {
		what string
		o    api.Owned
		want []api.Owned // nil: no news
	}{
		{"as great at all points", has(10, 20, 9, 3), nil},
		{"as great or greater at all points", has(10, 30, 9, 3), nil},
		{"greater at all points", has(12, 28, 9, 2), nil},
		{"as great at one alone", has(15, 16, 9, 3), nil},
		{"greater at one alone", has(29, 30, 9, 4), nil},
		{"as great within one", has(12, 18, 9, 3), nil},
		{"lesser at all points of one", has(10, 20, 9, 4), []api.Owned{has(10, 20, 9, 4), known[1], known[2]}},
		{"lesser within one", has(12, 18, 9, 4), []api.Owned{has(10, 12, 1, 3), has(12, 18, 9, 4), has(18, 20, 1, 3), known[1], known[2]}},
		{"lesser at one point within", has(15, 16, 9, 4), []api.Owned{has(10, 15, 1, 3), has(15, 16, 9, 4), has(16, 20, 1, 3), known[1], known[2]}},
		{"lesser at the first point", has(10, 11, 9, 4), []api.Owned{has(10, 11, 9, 4), has(11, 20, 1, 3), known[1], known[2]}},
		{"lesser at the last point", has(19, 20, 9, 4), []api.Owned{has(10, 19, 1, 3), has(19, 20, 9, 4), known[1], known[2]}},
		{"lesser at one alone of many", has(19, 30, 9, 5), []api.Owned{has(10, 19, 1, 3), has(19, 20, 9, 5), known[1], known[2]}},
		{"lesser at the lower part", has(5, 15, 9, 4), []api.Owned{has(5, 15, 9, 4), has(15, 20, 1, 3), known[1], known[2]}},
		{"lesser at the upper part, as great behind it", has(15, 25, 9, 5), []api.Owned{has(10, 15, 1, 3), has(15, 20, 9, 5), known[1], known[2]}},
		{"unknown at one point alone, at its end", has(10, 31, 9, 3), []api.Owned{known[0], known[1], has(30, 31, 9, 3), known[2]}},
		{"unknown at one point alone, at its beginning", has(9, 30, 9, 3), []api.Owned{has(9, 10, 9, 3), known[0], known[1], known[2]}},
		{"unknown at one point alone, at epoch 0", has(9, 30, 9, 0), []api.Owned{has(9, 10, 9, 0), known[0], known[1], known[2]}},
		{"unknown between, at epoch 0", has(20, 50, 9, 0), []api.Owned{known[0], known[1], has(30, 40, 9, 0), known[2]}},
		{"over several, some lesser", has(10, 50, 9, 4), []api.Owned{has(10, 20, 9, 4), known[1], has(30, 40, 9, 4), known[2]}},
		{"over all of them", has(10, 50, 9, 6), []api.Owned{has(10, 50, 9, 6)}},
		{"over more than all of them", has(5, 60, 9, 6), []api.Owned{has(5, 60, 9, 6)}},
		{"the ring, lesser", has(0, 0, 9, 0), []api.Owned{known[0], known[1], has(30, 40, 9, 0), known[2], has(50, 10, 9, 0)}},
		{"the ring, greater", has(7, 7, 9, 6), []api.Owned{has(0, 0, 9, 6)}},
		{"over the end, a part at each side", has(45, 15, 9, 9), []api.Owned{has(15, 20, 1, 3), known[1], has(40, 45, 3, 4), has(45, 15, 9, 9)}},
		{"over the end, lesser", has(45, 15, 9, 1), []api.Owned{known[0], known[1], known[2], has(50, 10, 9, 1)}},
		{"apart from all", has(60, 70, 9, 0), []api.Owned{known[0], known[1], known[2], has(60, 70, 9, 0)}},
		{"the same node, as great", has(12, 18, 1, 3), nil},
		{"the same node, greater", has(12, 18, 1, 4), []api.Owned{has(10, 12, 1, 3), has(12, 18, 1, 4), has(18, 20, 1, 3), known[1], known[2]}},
	} {
		v := told(known...)
		knows(t, c.what+", ahead of it", v, known...)
		if c.want == nil {
			learns(t, c.what, v, c.o, false, known...)
			continue
		}
		learns(t, c.what, v, c.o, true, c.want...)
		learns(t, c.what+", again", v, c.o, false, c.want...)
		learns(t, c.what+", from another node", v, api.Owned{Arc: c.o.Arc, Node: 200, Epoch: c.o.Epoch}, false, c.want...)
	}
}

// TestP1101Owner: at the ends of arcs, and across those that lie side by side.
func TestP1101Owner(t *testing.T) {
	for _, c := range []struct {
		what   string
		told   []api.Owned
		want   api.Owned
		points []uint64
	}{
		{"at its first point, and its last", []api.Owned{has(5, 9, 2, 1)}, has(5, 9, 2, 1), []uint64{5, 8}},
		{"at its To, where another one begins", []api.Owned{has(5, 9, 2, 1), has(9, 12, 3, 0)}, has(9, 12, 3, 0), []uint64{9, 11}},
		{"at 0, where it begins", []api.Owned{has(0, 9, 2, 1)}, has(0, 9, 2, 1), []uint64{0, 8}},
		{"at the greatest point, where it ends", []api.Owned{has(9, 0, 2, 1)}, has(9, 0, 2, 1), []uint64{9, end}},
		{"side by side, of the same node and epoch", []api.Owned{has(5, 9, 2, 1), has(9, 12, 2, 1)}, has(5, 12, 2, 1), []uint64{5, 8, 9, 11}},
		{"the other one first", []api.Owned{has(9, 12, 2, 1), has(5, 9, 2, 1)}, has(5, 12, 2, 1), []uint64{5, 8, 9, 11}},
		{"three of them, the middle one last", []api.Owned{has(1, 5, 2, 1), has(9, 12, 2, 1), has(5, 9, 2, 1)}, has(1, 12, 2, 1), []uint64{1, 4, 5, 8, 9, 11}},
		{"three of them, that meet", []api.Owned{has(1, 6, 2, 1), has(8, 12, 2, 1), has(3, 10, 2, 1)}, has(1, 12, 2, 1), []uint64{1, 5, 6, 8, 11}},
		{"side by side, of unlike epochs", []api.Owned{has(5, 9, 2, 1), has(9, 12, 2, 2)}, has(5, 9, 2, 1), []uint64{5, 8}},
		{"side by side, of unlike epochs, the upper one", []api.Owned{has(5, 9, 2, 1), has(9, 12, 2, 2)}, has(9, 12, 2, 2), []uint64{9, 11}},
		{"side by side, of unlike nodes", []api.Owned{has(5, 9, 2, 1), has(9, 12, 3, 1)}, has(5, 9, 2, 1), []uint64{5, 8}},
		{"side by side, of unlike nodes, the upper one", []api.Owned{has(5, 9, 2, 1), has(9, 12, 3, 1)}, has(9, 12, 3, 1), []uint64{9, 11}},
		{"across 0, of the same node and epoch", []api.Owned{has(9, 0, 2, 1), has(0, 5, 2, 1)}, has(9, 5, 2, 1), []uint64{9, end, 0, 4}},
		{"across 0, the other one first", []api.Owned{has(0, 5, 2, 1), has(9, 0, 2, 1)}, has(9, 5, 2, 1), []uint64{9, end, 0, 4}},
		{"across 0, of unlike epochs", []api.Owned{has(9, 0, 2, 1), has(0, 5, 2, 2)}, has(9, 0, 2, 1), []uint64{9, end}},
		{"across 0, of unlike epochs, the upper one", []api.Owned{has(9, 0, 2, 1), has(0, 5, 2, 2)}, has(0, 5, 2, 2), []uint64{0, 4}},
		{"across 0, of unlike nodes", []api.Owned{has(9, 0, 2, 1), has(0, 5, 3, 1)}, has(0, 5, 3, 1), []uint64{0, 4}},
		{"a gap of one point", []api.Owned{has(5, 9, 2, 1), has(10, 12, 2, 1)}, has(5, 9, 2, 1), []uint64{5, 8}},
		{"a gap of the point 0", []api.Owned{has(9, 0, 2, 1), has(1, 5, 2, 1)}, has(9, 0, 2, 1), []uint64{9, end}},
		{"a gap that is filled", []api.Owned{has(5, 9, 2, 1), has(10, 12, 2, 1), has(9, 10, 2, 1)}, has(5, 12, 2, 1), []uint64{5, 9, 11}},
		{"the ring of two halves", []api.Owned{has(5, 9, 2, 1), has(9, 5, 2, 1)}, has(0, 0, 2, 1), []uint64{0, 4, 5, 8, 9, end}},
		{"the ring of three parts", []api.Owned{has(0, 5, 2, 1), has(9, 0, 2, 1), has(5, 9, 2, 1)}, has(0, 0, 2, 1), []uint64{0, 4, 5, 8, 9, end}},
		{"the ring with another one within", []api.Owned{has(0, 0, 2, 1), has(5, 9, 3, 2)}, has(9, 5, 2, 1), []uint64{0, 4, 9, end}},
		{"another one that is gone again", []api.Owned{has(0, 0, 2, 1), has(5, 9, 3, 2), has(0, 0, 4, 3)}, has(0, 0, 4, 3), []uint64{0, 4, 5, 8, 9, end}},
		{"another one that ends at 0", []api.Owned{has(0, 0, 2, 1), has(9, 0, 3, 2)}, has(0, 9, 2, 1), []uint64{0, 8}},
		{"another one that begins at 0", []api.Owned{has(0, 0, 2, 1), has(0, 9, 3, 2)}, has(9, 0, 2, 1), []uint64{9, end}},
	} {
		for n := range c.points { // from each of them on
			owns(t, c.what, told(c.told...), c.want, slices.Concat(c.points[n:], c.points[:n])...)
		}
	}
}

// TestP1101OwnerNone: a point that is not known.
func TestP1101OwnerNone(t *testing.T) {
	ownsNone(t, "nothing is known", &view.View{}, 0, 1, 5, 1<<63, end-1, end)
	ownsNone(t, "beside one", told(has(5, 9, 2, 1)), 4, 9, 10, 0, end)
	ownsNone(t, "beside one over the end", told(has(9, 5, 2, 1)), 5, 6, 8)
	ownsNone(t, "between two", told(has(5, 9, 2, 1), has(10, 12, 2, 1)), 9, 12, 4, 0, end)
	ownsNone(t, "the point 0", told(has(1, 0, 2, 1)), 0)
	ownsNone(t, "the greatest point", told(has(0, end, 2, 1)), end)
}

// TestP1101Pairs: all orders of two arcs from a few points to others, with all the epochs and nodes that are like or unlike.
func TestP1101Pairs(t *testing.T) {
	var all []api.Owned
	for _, from := range []uint64{0, 1, 5, end} {
		for _, to := range []uint64{0, 1, 5, end} {
			for epoch := range 2 {
				for node := range 2 {
					all = append(all, has(from, to, node, epoch))
				}
			}
		}
	}
	for _, a := range all {
		for _, b := range all {
			follow(t, "a pair", a, b)
		}
	}
}

// TestP1101Many: many arcs, at points that are near one another, at the ends of the ring and anywhere.
func TestP1101Many(t *testing.T) {
	d := dice(11)
	for round := range 400 {
		wide := 2 + d.of(40)
		point := func() uint64 {
			if round%4 == 0 && d.of(3) == 0 {
				return d.roll()
			}
			return uint64(d.of(wide) - wide/2) // some of them near the end
		}
		epochs, nodes := 1+d.of(8), 1+d.of(5)
		var all []api.Owned
		for range 1 + d.of(30) {
			o := has(point(), point(), d.of(nodes), d.of(epochs))
			switch d.of(12) {
			case 0:
				o.Arc.To = o.Arc.From
			case 1:
				o.Arc.To = o.Arc.From + 1
			case 2:
				o.Epoch = -1 - d.of(3)
			case 3:
				o.Node = []int{-1, 256, 255, 0}[d.of(4)]
			}
			all = append(all, o)
		}
		follow(t, "round "+strconv.Itoa(round), all...)
	}
}

// follow tells a view and the slow one the same, and holds all that they tell against each other behind each.
func follow(t *testing.T, what string, all ...api.Owned) {
	t.Helper()
	v, s := &view.View{}, &slow{}
	for _, o := range all {
		want := s.Learn(o)
		if got := v.Learn(o); got != want {
			t.Errorf("%s: Learn of %v: %t, not %t", what, o, got, want)
		}
		agree(t, what, v, s)
	}
}
