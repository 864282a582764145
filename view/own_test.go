package view_test

import (
	"slices"
	"testing"

	"rosary/api"
	"rosary/view"
)

func TestP1101Nil(t *testing.T) {
	var v *view.View
	learns(t, "a nil one", v, has(0, 0, 1, 0), false)
	learns(t, "a nil one", v, has(5, 9, 1, 7), false)
	learns(t, "a nil one", v, has(5, 9, 256, -1), false)
	ownsNone(t, "a nil one", v, 0, 1, 5, end)
}

func TestP1102Nil(t *testing.T) {
	var v *view.View
	knowsNothing(t, "a nil one", v)
	v.All()(nil)
	for range v.All() {
		t.Error("All of a nil one tells an arc")
	}
	(&view.View{}).All()(nil)
	told(has(5, 9, 1, 7)).All()(nil)
}

// TestP1101Own: a view keeps nothing of what it was told but the numbers, and another one nothing of it.
func TestP1101Own(t *testing.T) {
	o := has(5, 9, 1, 7)
	v := &view.View{}
	v.Learn(o)
	o.Arc, o.Node, o.Epoch = api.Arc{}, 9, 99
	knows(t, "what was handed in is written over", v, has(5, 9, 1, 7))
	got, _ := v.Owner(5)
	got.Arc, got.Node, got.Epoch = api.Arc{}, 9, 99
	knows(t, "what Owner told is written over", v, has(5, 9, 1, 7))
	for o := range v.All() {
		o.Arc, o.Node, o.Epoch = api.Arc{}, 9, 99
	}
	knows(t, "what All told is written over", v, has(5, 9, 1, 7))
	other := *v
	learns(t, "a copy", &other, has(0, 0, 2, 8), true, has(0, 0, 2, 8))
	knows(t, "behind what its copy learnt", v, has(5, 9, 1, 7))
}

// TestP1102Own: lists that were told are nobody else's.
func TestP1102Own(t *testing.T) {
	v := told(has(0, 5, 3, 1), has(5, 9, 1, 1), has(9, 12, 2, 1), has(20, 25, 1, 1))
	first, second := v.Nodes(), v.Nodes()
	for _, list := range [][]int{first, second} {
		if !slices.Equal(list, []int{1, 2, 3}) {
			t.Errorf("Nodes: %v", list)
		}
	}
	for n := range first[:cap(first)] {
		first[:cap(first)][n] = 77
	}
	if got := v.Nodes(); !slices.Equal(second, []int{1, 2, 3}) || !slices.Equal(got, second) {
		t.Errorf("Nodes behind a list that was written over: %v, %v", second, got)
	}
	v.Learn(has(0, 0, 8, 9))
	if got := v.Nodes(); !slices.Equal(second, []int{1, 2, 3}) || !slices.Equal(got, []int{8}) {
		t.Errorf("Nodes behind Learn: %v, %v", second, got)
	}
}

// TestP1101Asked: asking changes nothing, and neither does what is no news.
func TestP1101Asked(t *testing.T) {
	all := []api.Owned{has(2, 5, 3, 1), has(5, 9, 1, 1), has(20, 1, 1, 4)}
	v, s := told(all...), &slow{told: all}
	for range 3 {
		agree(t, "asked", v, s)
	}
	for _, o := range []api.Owned{has(2, 9, 5, 1), has(0, 0, 5, -1), has(0, 0, 256, 9), has(25, 0, 5, 4), has(0, 1, 5, 0), has(3, 4, 3, 1)} {
		learns(t, "no news", v, o, false, all...)
		agree(t, "no news", v, s)
	}
}
