package gate_test

import (
	"math"
	"strconv"
	"testing"

	"rosary/api"
	"rosary/gate"
)

func TestP1301Example(t *testing.T) {
	g := &gate.Gate{}
	g.Point(from(0, 9), 3)
	ticks(g, 40)
	sendsNot(t, "the example", g, 1)
}

func TestP1301Point(t *testing.T) {
	for _, c := range kinds() {
		for _, node := range []int{0, 1, 255, 256, -1, math.MaxInt, math.MinInt} {
			what := c.what + ", to " + strconv.Itoa(node)
			g := &gate.Gate{}
			g.Point(c.arc, node)
			sends(t, what, g, node, c.in...)
			sendsNot(t, what, g, c.out...)
			count(t, what, g, 1)
			sends(t, what+", asked again", g, node, c.in...)
		}
	}
}

// TestP1301Where: by the pointer that was set last, where there are several.
func TestP1301Where(t *testing.T) {
	sendsNot(t, "none", &gate.Gate{}, 0, 1, 5, 1<<63, end)
	for _, c := range []struct {
		what    string
		arcs    []api.Arc        // the n-th one is sent to 10 and n
		want    map[int][]uint64 // to whom which points are sent
		nowhere []uint64
	}{
		{"apart", []api.Arc{from(5, 9), from(20, 30)}, map[int][]uint64{10: {5, 8}, 11: {20, 29}}, []uint64{4, 9, 19, 30, 0, end}},
		{"side by side", []api.Arc{from(5, 9), from(9, 12)}, map[int][]uint64{10: {5, 8}, 11: {9, 11}}, []uint64{4, 12}},
		{"side by side, from behind", []api.Arc{from(9, 12), from(5, 9)}, map[int][]uint64{10: {9, 11}, 11: {5, 8}}, []uint64{4, 12}},
		{"within another one", []api.Arc{from(5, 30), from(9, 12)}, map[int][]uint64{10: {5, 8, 12, 29}, 11: {9, 11}}, []uint64{4, 30}},
		{"around another one", []api.Arc{from(9, 12), from(5, 30)}, map[int][]uint64{11: {5, 8, 9, 11, 12, 29}}, []uint64{4, 30}},
		{"over the upper part", []api.Arc{from(5, 12), from(9, 20)}, map[int][]uint64{10: {5, 8}, 11: {9, 11, 12, 19}}, []uint64{4, 20}},
		{"over the lower part", []api.Arc{from(9, 20), from(5, 12)}, map[int][]uint64{10: {12, 19}, 11: {5, 8, 9, 11}}, []uint64{4, 20}},
		{"over parts of several", []api.Arc{from(5, 12), from(15, 20), from(9, 18)}, map[int][]uint64{10: {5, 8}, 11: {18, 19}, 12: {9, 14, 15, 17}}, []uint64{4, 20}},
		{"over one point", []api.Arc{from(5, 12), from(7, 8)}, map[int][]uint64{10: {5, 6, 8, 11}, 11: {7}}, []uint64{4, 12}},
		{"over the first point", []api.Arc{from(5, 12), from(5, 6)}, map[int][]uint64{10: {6, 11}, 11: {5}}, []uint64{4, 12}},
		{"over the last point", []api.Arc{from(5, 12), from(11, 12)}, map[int][]uint64{10: {5, 10}, 11: {11}}, []uint64{4, 12}},
		{"over the end", []api.Arc{from(0, 9), from(20, 2)}, map[int][]uint64{10: {2, 8}, 11: {20, end, 0, 1}}, []uint64{9, 19}},
		{"over both ends of one over the end", []api.Arc{from(20, 5), from(2, 25)}, map[int][]uint64{10: {25, end, 0, 1}, 11: {2, 4, 5, 20, 24}}, nil},
		{"over the whole ring", []api.Arc{from(7, 7), from(5, 9)}, map[int][]uint64{10: {0, 4, 9, end}, 11: {5, 7, 8}}, nil},
		{"over all, the whole ring", []api.Arc{from(5, 9), from(7, 7)}, map[int][]uint64{11: {0, 4, 5, 6, 7, 8, 9, end}}, nil},
		{"the same", []api.Arc{from(5, 9), from(5, 9)}, map[int][]uint64{11: {5, 7, 8}}, []uint64{4, 9}},
		{"the same, with others between", []api.Arc{from(5, 9), from(7, 12), from(5, 9)}, map[int][]uint64{11: {9, 11}, 12: {5, 7, 8}}, []uint64{4, 12}},
	} {
		for gap := range 3 { // all at the same tick, and with ticks between them
			g := &gate.Gate{}
			for n, a := range c.arcs {
				ticks(g, gap)
				g.Point(a, 10+n)
				count(t, c.what, g, n+1)
				sends(t, c.what+", just set", g, 10+n, a.From, a.To-1)
			}
			for node, points := range c.want {
				sends(t, c.what, g, node, points...)
			}
			sendsNot(t, c.what, g, c.nowhere...)
		}
	}
}

// TestP1301WhereOrders: the same pointers, in each order in which they may be set.
func TestP1301WhereOrders(t *testing.T) {
	arcs := []api.Arc{from(5, 9), from(7, 20), from(5, 9), from(18, 6), from(3, 3)}
	points := []uint64{0, 3, 4, 5, 6, 7, 8, 9, 17, 18, 19, 20, end}
	for _, order := range orders(len(arcs)) {
		for gap := range 2 {
			g, s := &gate.Gate{}, &slow{}
			for _, n := range order {
				ticks(g, gap)
				s.now += gap
				g.Point(arcs[n], n)
				s.set = append(s.set, put{arcs[n], n, s.now})
				agree(t, "in an order", g, s, points...)
			}
		}
	}
}

// TestP1301PointAgain: the same arc again, to another node or to the same one.
func TestP1301PointAgain(t *testing.T) {
	for _, c := range kinds() {
		for _, node := range []int{3, 4} {
			g := &gate.Gate{}
			g.Point(c.arc, 3)
			ticks(g, 10)
			g.Point(c.arc, node)
			sends(t, c.what, g, node, c.in...)
			sendsNot(t, c.what, g, c.out...)
			count(t, c.what, g, 2)
			ticks(g, 30)
			sends(t, c.what+", the first one is gone", g, node, c.in...)
			sendsNot(t, c.what+", the first one is gone", g, c.out...)
			count(t, c.what+", the first one is gone", g, 1)
			ticks(g, 9)
			sends(t, c.what+", the later one just stays", g, node, c.in...)
			ticks(g, 1)
			sendsNot(t, c.what+", both are gone", g, c.in...)
			count(t, c.what+", both are gone", g, 0)
		}
	}
}

// TestP1301Own: a gate keeps nothing of what it was handed but the numbers, and another gate nothing of it.
func TestP1301Own(t *testing.T) {
	a, node := from(5, 9), 3
	g, other := &gate.Gate{}, &gate.Gate{}
	g.Freeze(a)
	g.Point(a, node)
	a.From, a.To, node = 0, 0, 77
	isShut(t, "what was handed in is written over", g, from(5, 9))
	sends(t, "what was handed in is written over", g, 3, 5, 8)
	sendsNot(t, "what was handed in is written over", g, 0, 4, 9)
	got, _ := g.Arc()
	got.From, got.To = 0, 0
	isShut(t, "what Arc told is written over", g, from(5, 9))
	zero(t, "another gate", other)
	ticks(other, 50)
	other.Thaw()
	other.Point(from(0, 0), 8)
	isShut(t, "behind what was done to another one", g, from(5, 9))
	sends(t, "behind what was done to another one", g, 3, 5, 8)
	count(t, "behind what was done to another one", g, 1)
}

// TestP1301Apart: what is frozen and what pointers say do not touch each other.
func TestP1301Apart(t *testing.T) {
	for _, c := range kinds() {
		g := &gate.Gate{}
		g.Point(c.arc, 6)
		isOpen(t, c.what+", pointed", g)
		thaws(t, c.what+", pointed", g, false)
		for _, a := range []api.Arc{c.arc, from(5, 9), from(0, 0), from(30, 2)} {
			freezes(t, c.what+", pointed", g, a, true)
			sends(t, c.what+", something is frozen", g, 6, c.in...)
			sendsNot(t, c.what+", something is frozen", g, c.out...)
			count(t, c.what+", something is frozen", g, 1)
			thaws(t, c.what+", pointed", g, true)
			sends(t, c.what+", it is open again", g, 6, c.in...)
			sendsNot(t, c.what+", it is open again", g, c.out...)
			count(t, c.what+", it is open again", g, 1)
		}
		g = shut(c.arc)
		sendsNot(t, c.what+", frozen", g, c.in...)
		count(t, c.what+", frozen", g, 0)
		g.Point(c.arc, 6)
		g.Point(from(0, 0), 7)
		isShut(t, c.what+", frozen and pointed", g, c.arc)
		frozen(t, c.what+", frozen and pointed", g, false, c.out...)
		ticks(g, 40)
		isShut(t, c.what+", behind ticks", g, c.arc)
		frozen(t, c.what+", behind ticks", g, true, c.in...)
		sendsNot(t, c.what+", behind ticks", g, c.in...)
	}
}
