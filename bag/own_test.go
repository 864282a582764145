package bag_test

import (
	"reflect"
	"slices"
	"testing"

	"rosary/api"
	"rosary/bag"
)

// spoil writes over all of a packet's lists, and over what lies behind them.
func spoil(p api.Packet) {
	for _, list := range [][]api.Item{p.Letter.Items, p.Letter.Told.Items} {
		list = list[:cap(list)]
		for i := range list {
			list[i] = api.Item{Key: "spoilt", Value: "too"}
		}
	}
}

// holdWhole holds a bag against the whole packets that should be in it, and spoils what it tells of them.
func holdWhole(t *testing.T, what string, b *bag.Bag, want ...int) {
	t.Helper()
	for range 2 { // what was told is told again
		at := 0
		for n, p := range b.All() {
			if at >= len(want) || n != at || !reflect.DeepEqual(p, whole(want[at])) {
				t.Fatalf("%s: number %d is %+v", what, n, p)
			}
			spoil(p)
			at++
		}
		if at != len(want) || b.Len() != at {
			t.Fatalf("%s: %d, not %d", what, at, len(want))
		}
	}
}

// TestP801OwnIn: what was handed in is not written into, and what is done to it later is nothing to the bag.
func TestP801OwnIn(t *testing.T) {
	b := bag.New(2)
	items, tolds := append(whole(1).Letter.Items, api.Item{Key: "behind"}), append(whole(1).Letter.Told.Items, api.Item{Key: "behind"})
	p := whole(1)
	p.Letter.Items, p.Letter.Told.Items = items[:len(items)-1], tolds[:len(tolds)-1]
	b.Put(p)
	b.Put(p)
	b.Put(p) // it is lost
	for range b.All() {
		b.Twice(0)
	}
	spoilAll(b)
	one, _ := b.Take(0)
	spoil(one)
	b.Drop(0)
	if !reflect.DeepEqual(p, whole(1)) || items[len(items)-1].Key != "behind" || tolds[len(tolds)-1].Key != "behind" {
		t.Errorf("what was handed in: %+v", p)
	}
	b.Put(p)
	b.Twice(0)
	spoil(p)
	holdWhole(t, "what was handed in is turned", b, 1, 1)
	if got, is := b.Take(1); !is || !reflect.DeepEqual(got, whole(1)) {
		t.Errorf("what was handed in is turned: %+v", got)
	}
}

// spoilAll spoils all that a bag tells.
func spoilAll(b *bag.Bag) {
	for _, p := range b.All() {
		spoil(p)
	}
}

// TestP801OwnOut: what was told is the caller's own.
func TestP801OwnOut(t *testing.T) {
	b := bag.New(6)
	for n := range 3 {
		b.Put(whole(n))
	}
	b.Twice(1)
	holdWhole(t, "what All told is turned", b, 0, 1, 2, 1)
	for _, c := range []struct{ n, want int }{{3, 1}, {0, 0}} {
		one, is := b.Take(c.n)
		if !is || !reflect.DeepEqual(one, whole(c.want)) {
			t.Fatalf("Take(%d): %+v", c.n, one)
		}
		spoil(one)
	}
	holdWhole(t, "what Take told is turned", b, 1, 2)
	b.Put(whole(0))
	kept, _ := b.Take(0) // what was told stays, too, whatever is done later
	var list []api.Packet
	for _, p := range b.All() {
		list = append(list, p)
	}
	b.Drop(0)
	for range 6 {
		b.Put(whole(9))
	}
	spoilAll(b)
	if !reflect.DeepEqual(kept, whole(1)) || !reflect.DeepEqual(list, []api.Packet{whole(2), whole(0)}) {
		t.Errorf("what was told: %+v, %+v", kept, list)
	}
}

// TestP801OwnApart: the two lists of a packet, and those of two packets, share nothing, with room behind them or not.
func TestP801OwnApart(t *testing.T) {
	b := bag.New(2)
	shared := append(slices.Repeat([]api.Item{{Key: "k", Value: "v"}}, 3), api.Item{Key: "behind"})
	p := api.Packet{Seq: 1, Letter: api.Letter{Items: shared[:3], Told: api.Told{Items: shared[:3]}}}
	b.Put(p)
	b.Put(p)
	one, _ := b.Take(0)
	clear(one.Letter.Items)
	_ = append(one.Letter.Items, slices.Repeat([]api.Item{{Key: "mine"}}, 50)...)
	if !slices.Equal(one.Letter.Told.Items, shared[:3]) {
		t.Errorf("two lists of one packet share: %v", one.Letter.Told.Items)
	}
	for _, other := range b.All() {
		clear(other.Letter.Told.Items)
		if !slices.Equal(other.Letter.Items, shared[:3]) {
			t.Errorf("two lists of one packet share: %v", other.Letter.Items)
		}
	}
	if other, _ := b.Take(0); !reflect.DeepEqual(other, p) {
		t.Errorf("the other one: %+v", other)
	}
}

// TestP801OwnWhile: what is taken, and turned, while a way goes on is told by it as it was.
func TestP801OwnWhile(t *testing.T) {
	b := bag.New(3)
	for n := range 3 {
		b.Put(whole(n))
	}
	for n, p := range b.All() {
		if !reflect.DeepEqual(p, whole(n)) {
			t.Errorf("number %d: %+v", n, p)
		}
		spoil(p)
		for range b.Len() {
			one, _ := b.Take(0)
			spoil(one)
		}
		b.Put(whole(9))
		spoilAll(b)
	}
	holdWhole(t, "behind it", b, 9)
}

// TestP801OwnNone: lists of none stay none.
func TestP801OwnNone(t *testing.T) {
	b := bag.New(2)
	b.Put(api.Packet{Seq: 1})
	room := make([]api.Item, 0, 4)
	b.Put(api.Packet{Seq: 2, Letter: api.Letter{Items: room, Told: api.Told{Items: room}}})
	for _, p := range b.All() {
		if len(p.Letter.Items)+len(p.Letter.Told.Items) != 0 {
			t.Errorf("%+v", p)
		}
		_ = append(p.Letter.Items, api.Item{Key: "mine"})
	}
	if room = room[:1]; room[0].Key != "" {
		t.Errorf("what was handed in: %v", room)
	}
}
