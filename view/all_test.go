package view_test

import (
	"slices"
	"strconv"
	"testing"

	"rosary/api"
	"rosary/view"
)

func TestP1102All(t *testing.T) {
	for _, c := range []struct {
		what string
		told []api.Owned
		want []api.Owned
	}{
		{"nothing", nil, nil},
		{"the ring", []api.Owned{has(0, 0, 3, 1)}, []api.Owned{has(0, 0, 3, 1)}},
		{"the ring from elsewhere on", []api.Owned{has(9, 9, 3, 1)}, []api.Owned{has(0, 0, 3, 1)}},
		{"one", []api.Owned{has(5, 9, 3, 1)}, []api.Owned{has(5, 9, 3, 1)}},
		{"one over the end", []api.Owned{has(9, 5, 3, 1)}, []api.Owned{has(9, 5, 3, 1)}},
		{"one that ends at 0", []api.Owned{has(9, 0, 3, 1)}, []api.Owned{has(9, 0, 3, 1)}},
		{"one that begins at 0", []api.Owned{has(0, 5, 3, 1)}, []api.Owned{has(0, 5, 3, 1)}},
		{"one over the end comes last", []api.Owned{has(20, 2, 1, 1), has(12, 15, 2, 1), has(5, 9, 3, 1)}, []api.Owned{has(5, 9, 3, 1), has(12, 15, 2, 1), has(20, 2, 1, 1)}},
		{"one at 0 comes first", []api.Owned{has(20, 0, 1, 1), has(5, 9, 3, 1), has(0, 2, 2, 1)}, []api.Owned{has(0, 2, 2, 1), has(5, 9, 3, 1), has(20, 0, 1, 1)}},
		{"gaps between, of the same", []api.Owned{has(20, 25, 1, 1), has(0, 2, 1, 1), has(5, 9, 1, 1)}, []api.Owned{has(0, 2, 1, 1), has(5, 9, 1, 1), has(20, 25, 1, 1)}},
		{"no gaps between", []api.Owned{has(9, 2, 1, 1), has(2, 5, 2, 1), has(5, 9, 1, 1)}, []api.Owned{has(2, 5, 2, 1), has(5, 2, 1, 1)}},
		{"side by side, unlike", []api.Owned{has(0, 2, 1, 1), has(2, 4, 1, 2), has(4, 6, 2, 2), has(6, 0, 2, 1)}, []api.Owned{has(0, 2, 1, 1), has(2, 4, 1, 2), has(4, 6, 2, 2), has(6, 0, 2, 1)}},
		{"the ring within another one's", []api.Owned{has(0, 0, 1, 1), has(5, 9, 2, 2), has(0, 3, 3, 3)}, []api.Owned{has(0, 3, 3, 3), has(3, 5, 1, 1), has(5, 9, 2, 2), has(9, 0, 1, 1)}},
		{"one point each", []api.Owned{has(end, 0, 1, 1), has(0, 1, 2, 1), has(end-1, end, 3, 1)}, []api.Owned{has(0, 1, 2, 1), has(end-1, end, 3, 1), has(end, 0, 1, 1)}},
		{"the ring, in two parts that come together", []api.Owned{has(5, 9, 1, 1), has(9, 5, 1, 1)}, []api.Owned{has(0, 0, 1, 1)}},
	} {
		v := told(c.told...)
		knows(t, c.what, v, c.want...)
		knows(t, c.what+", once more", v, c.want...)
		if got := v.Len(); got != len(c.want) {
			t.Errorf("%s: Len %d, not %d", c.what, got, len(c.want))
		}
		ends(t, c.what, v, c.want)
	}
}

// ends holds ways that are told to end behind each of the arcs against the arcs that they should tell.
func ends(t *testing.T, what string, v *view.View, want []api.Owned) {
	t.Helper()
	seq := v.All()
	for stop := 1; stop <= len(want)+1; stop++ {
		var come []api.Owned
		seq(func(o api.Owned) bool { // not by a loop: it would end a way that goes on
			come = append(come, o)
			return len(come) < stop
		})
		if !slices.Equal(come, want[:min(stop, len(want))]) {
			t.Errorf("%s: a way that ends behind %d: %v", what, stop, come)
		}
	}
	seq(nil)
	if got := slices.Collect(seq); !slices.Equal(got, want) {
		t.Errorf("%s: the same way behind those that ended: %v, not %v", what, got, want)
	}
}

// TestP1102AllWithin: a way within itself, and others beside it.
func TestP1102AllWithin(t *testing.T) {
	want := []api.Owned{has(0, 2, 1, 1), has(5, 9, 2, 1), has(9, 12, 3, 1), has(20, 0, 4, 1)}
	v := told(want...)
	seq := v.All()
	var got [][2]api.Owned
	for a := range seq {
		for b := range seq {
			got = append(got, [2]api.Owned{a, b})
			knows(t, "within two ways", v, want...)
			if b == a {
				break
			}
		}
	}
	var pairs [][2]api.Owned
	for n, a := range want {
		for _, b := range want[:n+1] {
			pairs = append(pairs, [2]api.Owned{a, b})
		}
	}
	if !slices.Equal(got, pairs) {
		t.Errorf("a way within itself: %v, not %v", got, pairs)
	}
}

// TestP1102AllMeanwhile: what is learnt while a way is gone is told by the next one.
func TestP1102AllMeanwhile(t *testing.T) {
	for _, o := range []api.Owned{has(0, 0, 9, 9), has(4, 11, 9, 9), has(0, 0, 9, 0), has(30, 1, 9, 9), has(2, 5, 1, 1), has(9, 20, 2, 1)} {
		for when := range 3 {
			want := []api.Owned{has(0, 2, 1, 1), has(5, 9, 2, 1), has(20, 25, 3, 1)}
			v, s := told(want...), &slow{told: want}
			what := "learnt at arc " + strconv.Itoa(when)
			seq := v.All()
			var got []api.Owned
			for a := range seq {
				if len(got) == when && !v.Learn(o) {
					t.Errorf("%s: Learn of %v: false", what, o)
				}
				got = append(got, a)
			}
			if !slices.Equal(got, want) {
				t.Errorf("%s: %v, not %v", what, got, want)
			}
			s.Learn(o)
			agree(t, what, v, s)
			if again := slices.Collect(seq); !slices.Equal(again, s.All()) {
				t.Errorf("%s: the same way again: %v, not %v", what, again, s.All())
			}
		}
	}
}

func TestP1102Len(t *testing.T) {
	v := &view.View{}
	for _, c := range []struct {
		o    api.Owned
		want int
	}{
		{has(5, 9, 1, 1), 1},
		{has(20, 25, 1, 1), 2},
		{has(9, 20, 1, 1), 1},
		{has(9, 20, 1, 1), 1},
		{has(10, 12, 2, 2), 3},
		{has(15, 16, 2, 2), 5},
		{has(30, 2, 1, 1), 6},
		{has(0, 1, 1, 2), 8},
		{has(0, 0, 1, -1), 8},
		{has(0, 0, 7, 1), 10},
		{has(3, 3, 7, 9), 1},
	} {
		v.Learn(c.o)
		if got := v.Len(); got != c.want {
			t.Errorf("Len behind %v: %d, not %d: %v", c.o, got, c.want, slices.Collect(v.All()))
		}
	}
}

func TestP1102Nodes(t *testing.T) {
	for _, c := range []struct {
		what string
		told []api.Owned
		want []int
	}{
		{"nothing", nil, nil},
		{"the ring", []api.Owned{has(0, 0, 7, 1)}, []int{7}},
		{"both ends", []api.Owned{has(0, 5, 255, 1), has(5, 9, 0, 1)}, []int{0, 255}},
		{"one that has several", []api.Owned{has(0, 5, 7, 1), has(10, 15, 7, 1), has(20, 0, 7, 2)}, []int{7}},
		{"several that have several", []api.Owned{has(0, 5, 7, 1), has(5, 9, 3, 1), has(9, 12, 7, 1), has(12, 15, 3, 2), has(15, 18, 200, 1), has(20, 22, 7, 5)}, []int{3, 7, 200}},
		{"not by their arcs", []api.Owned{has(0, 5, 9, 1), has(5, 9, 2, 1), has(9, 12, 30, 1), has(12, 15, 1, 1)}, []int{1, 2, 9, 30}},
		{"one that lost all", []api.Owned{has(5, 9, 3, 1), has(0, 0, 7, 2)}, []int{7}},
		{"one that lost a part", []api.Owned{has(5, 9, 3, 1), has(0, 6, 7, 2)}, []int{3, 7}},
		{"one that came too late", []api.Owned{has(5, 9, 3, 1), has(5, 9, 7, 1), has(5, 9, 8, 0)}, []int{3}},
		{"what may not be", []api.Owned{has(5, 9, 256, 1), has(5, 9, -1, 1), has(5, 9, 3, -1)}, nil},
	} {
		if got := told(c.told...).Nodes(); !slices.Equal(got, c.want) {
			t.Errorf("%s: Nodes: %v, not %v", c.what, got, c.want)
		}
	}
	v := &view.View{}
	var want []int
	for node := 255; node >= 0; node-- { // many, falling
		v.Learn(has(uint64(255-node)*10, uint64(255-node)*10+5, node, 0))
		v.Learn(has(uint64(node)*10+1_000_000, uint64(node)*10+1_000_007, node, 0))
		want = append([]int{node}, want...)
	}
	if got := v.Nodes(); !slices.Equal(got, want) {
		t.Errorf("Nodes of all: %v", got)
	}
}

func TestP1102Next(t *testing.T) {
	for _, c := range []struct {
		what   string
		told   []api.Owned
		points []uint64
		want   uint64
	}{
		{"one", []api.Owned{has(5, 9, 1, 1)}, []uint64{5, 6, 8}, 9},
		{"one over the end", []api.Owned{has(9, 5, 1, 1)}, []uint64{9, end, 0, 4}, 5},
		{"one that ends at 0", []api.Owned{has(9, 0, 1, 1)}, []uint64{9, end}, 0},
		{"one that ends at the greatest point", []api.Owned{has(9, end, 1, 1)}, []uint64{9, end - 1}, end},
		{"the ring", []api.Owned{has(0, 0, 1, 1)}, []uint64{0, 5, end}, 0},
		{"the ring from elsewhere on", []api.Owned{has(7, 7, 1, 1)}, []uint64{0, 6, 7, 8, end}, 0},
		{"side by side, alike", []api.Owned{has(5, 9, 1, 1), has(9, 12, 1, 1)}, []uint64{5, 8, 9, 11}, 12},
		{"side by side, of unlike epochs", []api.Owned{has(5, 9, 1, 1), has(9, 12, 1, 2)}, []uint64{5, 8}, 9},
		{"side by side, of unlike nodes", []api.Owned{has(5, 9, 1, 1), has(9, 12, 2, 1)}, []uint64{5, 8}, 9},
		{"across 0, alike", []api.Owned{has(9, 0, 1, 1), has(0, 5, 1, 1)}, []uint64{9, end, 0, 4}, 5},
		{"across 0, unlike", []api.Owned{has(9, 0, 1, 1), has(0, 5, 2, 1)}, []uint64{9, end}, 0},
		{"one point", []api.Owned{has(0, 0, 1, 1), has(5, 6, 2, 2)}, []uint64{5}, 6},
		{"around one point", []api.Owned{has(0, 0, 1, 1), has(5, 6, 2, 2)}, []uint64{4, 0, end, 6}, 5},
	} {
		v := told(c.told...)
		for _, x := range c.points {
			if got, is := v.Next(x); got != c.want || !is {
				t.Errorf("%s: Next(%d): %d, %t, not %d", c.what, x, got, is, c.want)
			}
		}
	}
	ownsNone(t, "beside one", told(has(5, 9, 1, 1)), 4, 9, 0, end)
	ownsNone(t, "beside one over the end", told(has(9, 5, 1, 1)), 5, 8)
	v := told(has(0, 5, 1, 1), has(5, 9, 2, 1), has(9, 20, 1, 1), has(20, 0, 2, 1))
	var come []uint64
	for x, n := uint64(3), 0; n < 5; n++ { // round the ring by it
		x, _ = v.Next(x)
		come = append(come, x)
	}
	if want := []uint64{5, 9, 20, 0, 5}; !slices.Equal(come, want) {
		t.Errorf("round the ring by Next: %v, not %v", come, want)
	}
}

func TestP1102Ring(t *testing.T) {
	for _, c := range []struct {
		what string
		told []api.Owned
		want bool
	}{
		{"nothing", nil, false},
		{"the ring", []api.Owned{has(0, 0, 1, 0)}, true},
		{"the ring from elsewhere on", []api.Owned{has(end, end, 1, 0)}, true},
		{"what may not be", []api.Owned{has(0, 0, 256, 0), has(0, 0, 1, -1)}, false},
		{"one arc", []api.Owned{has(5, 9, 1, 0)}, false},
		{"one over the end", []api.Owned{has(9, 5, 1, 0)}, false},
		{"two halves", []api.Owned{has(5, 9, 1, 0), has(9, 5, 2, 0)}, true},
		{"two halves of the same", []api.Owned{has(5, 9, 1, 0), has(9, 5, 1, 0)}, true},
		{"two halves of the numbers", []api.Owned{has(0, 1<<63, 1, 0), has(1<<63, 0, 2, 3)}, true},
		{"half of the numbers", []api.Owned{has(0, 1<<63, 1, 0)}, false},
		{"two that meet", []api.Owned{has(5, 12, 1, 0), has(9, 7, 2, 4)}, true},
		{"one point lacks", []api.Owned{has(6, 5, 1, 0)}, false},
		{"the point 0 lacks", []api.Owned{has(1, 0, 1, 0)}, false},
		{"the greatest point lacks", []api.Owned{has(0, end, 1, 0)}, false},
		{"a point between two lacks", []api.Owned{has(5, 9, 1, 0), has(10, 5, 2, 0)}, false},
		{"the point 0 lacks between two", []api.Owned{has(1, 9, 1, 0), has(9, 0, 2, 0)}, false},
		{"the greatest point lacks between two", []api.Owned{has(0, 9, 1, 0), has(9, end, 2, 0)}, false},
		{"a point lacked", []api.Owned{has(5, 9, 1, 0), has(10, 5, 2, 0), has(9, 10, 3, 0)}, true},
		{"many", []api.Owned{has(0, 5, 1, 0), has(5, 9, 2, 1), has(9, 12, 3, 2), has(12, 0, 1, 0)}, true},
		{"many, one point lacks", []api.Owned{has(0, 5, 1, 0), has(5, 9, 2, 1), has(9, 12, 3, 2), has(13, 0, 1, 0)}, false},
	} {
		if got := told(c.told...).Ring(); got != c.want {
			t.Errorf("%s: Ring: %t", c.what, got)
		}
	}
}
