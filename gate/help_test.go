package gate_test

import (
	"math"
	"slices"
	"strconv"
	"testing"

	"rosary/api"
	"rosary/gate"
)

const end = math.MaxUint64 // the last point of the ring

// from makes an arc.
func from(from, to uint64) api.Arc { return api.Arc{From: from, To: to} }

// shut makes a gate with a frozen arc.
func shut(a api.Arc) *gate.Gate {
	g := &gate.Gate{}
	g.Freeze(a)
	return g
}

// ticks lets so many ticks go by.
func ticks(g *gate.Gate, count int) {
	for range count {
		g.Tick()
	}
}

// freezes holds Freeze against what it should tell.
func freezes(t *testing.T, what string, g *gate.Gate, a api.Arc, want bool) {
	t.Helper()
	if got := g.Freeze(a); got != want {
		t.Errorf("%s: Freeze(%v): %t, not %t", what, a, got, want)
	}
}

// thaws holds Thaw against what it should tell.
func thaws(t *testing.T, what string, g *gate.Gate, want bool) {
	t.Helper()
	if got := g.Thaw(); got != want {
		t.Errorf("%s: Thaw: %t, not %t", what, got, want)
	}
}

// isShut holds Arc against an arc that should be frozen.
func isShut(t *testing.T, what string, g *gate.Gate, want api.Arc) {
	t.Helper()
	if got, is := g.Arc(); got != want || !is {
		t.Errorf("%s: Arc: %v, %t, not %v", what, got, is, want)
	}
}

// isOpen holds Arc and Frozen against a gate at which nothing is frozen.
func isOpen(t *testing.T, what string, g *gate.Gate) {
	t.Helper()
	if got, is := g.Arc(); got != (api.Arc{}) || is {
		t.Errorf("%s: Arc: %v, %t", what, got, is)
	}
	frozen(t, what, g, false, 0, 1, 5, 9, 1<<63, end)
}

// frozen holds Frozen at each of the points against what it should tell.
func frozen(t *testing.T, what string, g *gate.Gate, want bool, points ...uint64) {
	t.Helper()
	for _, x := range points {
		if got := g.Frozen(x); got != want {
			t.Errorf("%s: Frozen(%d): %t, not %t", what, x, got, want)
		}
	}
}

// sends holds Where at each of the points against the node that it should tell.
func sends(t *testing.T, what string, g *gate.Gate, node int, points ...uint64) {
	t.Helper()
	for _, x := range points {
		if got, is := g.Where(x); got != node || !is {
			t.Errorf("%s: Where(%d): %d, %t, not %d", what, x, got, is, node)
		}
	}
}

// sendsNot holds Where at each of the points against a false, and nothing beside it.
func sendsNot(t *testing.T, what string, g *gate.Gate, points ...uint64) {
	t.Helper()
	for _, x := range points {
		if got, is := g.Where(x); got != 0 || is {
			t.Errorf("%s: Where(%d): %d, %t, not none", what, x, got, is)
		}
	}
}

// count holds Points against how many there should be.
func count(t *testing.T, what string, g *gate.Gate, want int) {
	t.Helper()
	if got := g.Points(); got != want {
		t.Errorf("%s: Points: %d, not %d", what, got, want)
	}
}

// kind is an arc of a kind, and points that are in it, and that are not.
type kind struct {
	what    string
	arc     api.Arc
	in, out []uint64
}

// kinds are arcs of all kinds.
func kinds() []kind {
	list := []kind{
		{"an ordinary one", from(5, 9), []uint64{5, 6, 7, 8}, []uint64{4, 9, 10, 0, end}},
		{"one point", from(5, 6), []uint64{5}, []uint64{4, 6, 0, end}},
		{"the point 0", from(0, 1), []uint64{0}, []uint64{1, 2, end}},
		{"the greatest point", from(end, 0), []uint64{end}, []uint64{end - 1, 0, 1}},
		{"both", from(end, 1), []uint64{end, 0}, []uint64{end - 1, 1, 2}},
		{"over the end", from(9, 5), []uint64{9, 10, end, 0, 1, 4}, []uint64{5, 6, 8}},
		{"all but one point", from(6, 5), []uint64{6, 7, end, 0, 4}, []uint64{5}},
		{"all but the point 0", from(1, 0), []uint64{1, 2, 1 << 63, end}, []uint64{0}},
		{"all but the greatest point", from(0, end), []uint64{0, 1, 1 << 63, end - 1}, []uint64{end}},
		{"from 0 on", from(0, 9), []uint64{0, 1, 8}, []uint64{9, 10, end}},
		{"up to the end", from(9, 0), []uint64{9, 10, end - 1, end}, []uint64{8, 0, 1}},
		{"up to the greatest point", from(9, end), []uint64{9, end - 1}, []uint64{end, 0, 8}},
		{"from the greatest point on", from(end, 9), []uint64{end, 0, 8}, []uint64{end - 1, 9}},
		{"half of the ring", from(1<<63, 0), []uint64{1 << 63, 1<<63 + 1, end}, []uint64{1<<63 - 1, 0}},
	}
	for _, x := range []uint64{0, 1, 2, 9, 1 << 63, end - 1, end} {
		what := "the ring from " + strconv.FormatUint(x, 10) + " on"
		list = append(list, kind{what, from(x, x), []uint64{0, 1, x - 1, x, x + 1, 1 << 63, end}, nil})
	}
	return list
}

// orders goes through all orders of so many things.
func orders(count int) (all [][]int) {
	if count == 0 {
		return [][]int{nil}
	}
	for _, o := range orders(count - 1) {
		for n := range count {
			all = append(all, slices.Insert(slices.Clone(o), n, count-1))
		}
	}
	return all
}

// slow is what the tests hold a gate against: all that was ever done, from which it works each answer out anew.
type slow struct {
	now    int
	frozen []api.Arc
	set    []put
}

// put is a pointer that was set at a tick.
type put struct {
	arc        api.Arc
	node, when int
}

// in tells whether a point lies in an arc.
func in(a api.Arc, x uint64) bool {
	if a.From < a.To {
		return a.From <= x && x < a.To
	}
	return a.From <= x || x < a.To
}

// stay are the pointers that are not too old, in the order in which they were set.
func (s *slow) stay() (all []put) {
	for _, p := range s.set {
		if s.now-p.when < 40 {
			all = append(all, p)
		}
	}
	return all
}

func (s *slow) Where(x uint64) (node int, is bool) {
	for _, p := range s.stay() {
		if in(p.arc, x) {
			node, is = p.node, true
		}
	}
	return node, is
}

// agree holds all that a gate tells at the points against what the slow one tells.
func agree(t *testing.T, what string, g *gate.Gate, s *slow, points ...uint64) {
	t.Helper()
	count(t, what, g, len(s.stay()))
	if len(s.frozen) == 0 {
		isOpen(t, what, g)
	} else {
		isShut(t, what, g, s.frozen[0])
	}
	for _, x := range points {
		frozen(t, what, g, slices.ContainsFunc(s.frozen, func(a api.Arc) bool { return in(a, x) }), x)
		if node, is := s.Where(x); is {
			sends(t, what, g, node, x)
		} else {
			sendsNot(t, what, g, x)
		}
	}
	if t.Failed() {
		t.Fatalf("%s: tick %d, frozen is %v, set was %v", what, s.now, s.frozen, s.set)
	}
}

// dice draws numbers, the same ones for the same beginning each time.
type dice uint64

// roll tells a number.
func (d *dice) roll() uint64 {
	*d = *d*6364136223846793005 + 1442695040888963407
	return uint64(*d>>32) | uint64(*d)<<32
}

// of tells a number from 0 on, below most.
func (d *dice) of(most int) int {
	return int(d.roll() & math.MaxInt32 % uint64(most))
}
