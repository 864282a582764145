package view_test

import (
	"math"
	"slices"
	"testing"

	"rosary/api"
	"rosary/view"
)

const end = math.MaxUint64 // the last point of the ring

// has says that a node has an arc.
func has(from, to uint64, node, epoch int) api.Owned {
	return api.Owned{Arc: api.Arc{From: from, To: to}, Node: node, Epoch: epoch}
}

// told makes a view that was told all of these, in this order.
func told(all ...api.Owned) *view.View {
	v := &view.View{}
	for _, o := range all {
		v.Learn(o)
	}
	return v
}

// learns holds Learn against what it should tell, and against all arcs that should be known behind it.
func learns(t *testing.T, what string, v *view.View, o api.Owned, want bool, all ...api.Owned) {
	t.Helper()
	if got := v.Learn(o); got != want {
		t.Errorf("%s: Learn of %v: %t, not %t", what, o, got, want)
	}
	knows(t, what+", behind Learn", v, all...)
}

// knows holds All against the arcs that should be known, in their order.
func knows(t *testing.T, what string, v *view.View, want ...api.Owned) {
	t.Helper()
	var got []api.Owned
	for o := range v.All() {
		got = append(got, o)
	}
	if !slices.Equal(got, want) {
		t.Errorf("%s: All: %v, not %v", what, got, want)
	}
}

// owns holds Owner at each of the points against what should be told.
func owns(t *testing.T, what string, v *view.View, want api.Owned, points ...uint64) {
	t.Helper()
	for _, x := range points {
		if got, is := v.Owner(x); got != want || !is {
			t.Errorf("%s: Owner(%d): %v, %t, not %v", what, x, got, is, want)
		}
	}
}

// ownsNone holds Owner and Next at each of the points against a false, and nothing beside it.
func ownsNone(t *testing.T, what string, v *view.View, points ...uint64) {
	t.Helper()
	for _, x := range points {
		if got, is := v.Owner(x); got != (api.Owned{}) || is {
			t.Errorf("%s: Owner(%d): %v, %t", what, x, got, is)
		}
		if to, is := v.Next(x); to != 0 || is {
			t.Errorf("%s: Next(%d): %d, %t", what, x, to, is)
		}
	}
}

// knowsNothing holds all calls that tell against one that knows nothing.
func knowsNothing(t *testing.T, what string, v *view.View) {
	t.Helper()
	knows(t, what, v)
	ownsNone(t, what, v, 0, 1, 5, 1<<63, end)
	if n, nodes, ring := v.Len(), v.Nodes(), v.Ring(); n != 0 || len(nodes) != 0 || ring {
		t.Errorf("%s: Len %d, Nodes %v, Ring %t", what, n, nodes, ring)
	}
}

// slow is what the tests hold a view against: all that was ever told, from which it works each answer out anew.
type slow struct{ told []api.Owned }

// in tells whether a point lies in an arc.
func in(a api.Arc, x uint64) bool {
	if a.From < a.To {
		return a.From <= x && x < a.To
	}
	return a.From <= x || x < a.To
}

// at tells what is known at a point: of those who were told of it the first one of the greatest epoch, else -1.
func (s *slow) at(x uint64) (node, epoch int) {
	node, epoch = -1, -1
	for _, o := range s.told {
		if in(o.Arc, x) && o.Epoch > epoch {
			node, epoch = o.Node, o.Epoch
		}
	}
	return node, epoch
}

// borders are the points at which something else is known than at the point ahead of them, rising.
func (s *slow) borders() (all []uint64) {
	for _, o := range s.told {
		for _, x := range []uint64{o.Arc.From, o.Arc.To} {
			node, epoch := s.at(x)
			if n, e := s.at(x - 1); n != node || e != epoch {
				all = append(all, x)
			}
		}
	}
	slices.Sort(all)
	return slices.Compact(all)
}

func (s *slow) Learn(o api.Owned) bool {
	if o.Epoch < 0 || o.Node < 0 || o.Node > 255 {
		return false
	}
	news := false
	for _, x := range append(s.borders(), o.Arc.From) { // what is known turns nowhere else
		_, epoch := s.at(x)
		news = news || in(o.Arc, x) && epoch < o.Epoch
	}
	s.told = append(s.told, o)
	return news
}

func (s *slow) Owner(x uint64) (api.Owned, bool) {
	node, epoch := s.at(x)
	if epoch < 0 {
		return api.Owned{}, false
	}
	all := s.borders()
	if len(all) == 0 {
		return has(0, 0, node, epoch), true
	}
	from, to := all[len(all)-1], all[0]
	for n, b := range all {
		if b <= x {
			from, to = b, all[(n+1)%len(all)]
		}
	}
	return has(from, to, node, epoch), true
}

func (s *slow) All() (all []api.Owned) {
	starts := s.borders()
	if len(starts) == 0 {
		starts = []uint64{0}
	}
	for _, x := range starts {
		if o, is := s.Owner(x); is {
			all = append(all, o)
		}
	}
	return all
}

func (s *slow) Nodes() (all []int) {
	known := s.All()
	for node := range 256 {
		if slices.ContainsFunc(known, func(o api.Owned) bool { return o.Node == node }) {
			all = append(all, node)
		}
	}
	return all
}

func (s *slow) Ring() bool {
	for _, x := range append(s.borders(), 0) {
		if _, epoch := s.at(x); epoch < 0 {
			return false
		}
	}
	return true
}

// agree holds all that a view tells against what the slow one tells.
func agree(t *testing.T, what string, v *view.View, s *slow) {
	t.Helper()
	all := s.All()
	knows(t, what, v, all...)
	if got := v.Len(); got != len(all) {
		t.Errorf("%s: Len: %d, not %d", what, got, len(all))
	}
	if got, want := v.Nodes(), s.Nodes(); !slices.Equal(got, want) {
		t.Errorf("%s: Nodes: %v, not %v", what, got, want)
	}
	if got, want := v.Ring(), s.Ring(); got != want {
		t.Errorf("%s: Ring: %t, not %t", what, got, want)
	}
	for _, b := range append(s.borders(), 0, 5, 1<<63) {
		for _, x := range []uint64{b - 1, b, b + 1} {
			want, known := s.Owner(x)
			if !known {
				ownsNone(t, what, v, x)
				continue
			}
			owns(t, what, v, want, x)
			if to, is := v.Next(x); to != want.Arc.To || !is {
				t.Errorf("%s: Next(%d): %d, %t, not %d", what, x, to, is, want.Arc.To)
			}
		}
	}
	if t.Failed() {
		t.Fatalf("%s: told was %v", what, s.told)
	}
}

// dice draws numbers, the same ones for the same beginning each time.
type dice uint64

// roll tells a number.
func (d *dice) roll() uint64 {
	*d = *d*6364136223846793005 + 1442695040888963407
	return uint64(*d>>32) | uint64(*d)<<32
}

// of tells a number from 0 on, below most.
func (d *dice) of(most int) int {
	return int(d.roll() & math.MaxInt32 % uint64(most))
}
