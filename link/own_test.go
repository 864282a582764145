package link_test

import (
	"reflect"
	"slices"
	"testing"

	"rosary/api"
	"rosary/link"
)

// spoil writes over all of a letter's lists, and over what lies behind them.
func spoil(x api.Letter) {
	for _, list := range [][]api.Item{x.Items, x.Told.Items} {
		list = list[:cap(list)]
		for i := range list {
			list[i] = api.Item{Key: "spoilt", Value: "too"}
		}
	}
}

// spoilAll spoils packets, and their list.
func spoilAll(packets []api.Packet) {
	for _, p := range packets {
		spoil(p.Letter)
	}
	clear(packets[:cap(packets)])
}

// roomy makes a whole letter whose lists have something behind them, and tells whether all of it is as it was made.
func roomy(n int) (api.Letter, func() bool) {
	x := whole(n)
	behind := api.Item{Key: "behind"}
	items, tolds := append(x.Items, behind), append(x.Told.Items, behind)
	x.Items, x.Told.Items = items[:3], tolds[:2]
	return x, func() bool {
		return reflect.DeepEqual(x, whole(n)) && items[3] == behind && tolds[2] == behind
	}
}

// after lets ticks go by till letters are sent again.
func after(l *link.Link) []api.Packet {
	for range api.Resend - 1 {
		l.Tick()
	}
	return l.Tick()
}

// TestP901OwnSend: what was handed in to Send stays, and what is done to it, or to what Send told, is nothing to the link.
func TestP901OwnSend(t *testing.T) {
	l := link.New(me, peer)
	x, stays := roomy(1)
	p, q := l.Send(x), l.Send(x)
	spoil(p.Letter)
	if !stays() {
		t.Errorf("what was handed in: %+v", x)
	}
	if !reflect.DeepEqual(q, there(2, 0, whole(1))) {
		t.Errorf("another packet: %+v", q)
	}
	kept := l.Send(x)
	spoil(x)
	want := []api.Packet{there(1, 0, whole(1)), there(2, 0, whole(1)), there(3, 0, whole(1))}
	if !reflect.DeepEqual(kept, want[2]) {
		t.Errorf("what was told: %+v", kept)
	}
	if got := after(l); !alike(got, want) {
		t.Errorf("what is sent again: %+v", got)
	}
	acked(t, "all", l, 3)
	if !reflect.DeepEqual(q, want[1]) || !reflect.DeepEqual(kept, want[2]) {
		t.Errorf("what was told: %+v, %+v", q, kept)
	}
}

// TestP901OwnGot: what was handed in to Got stays, and what is done to it later is nothing to what was, or is, told.
func TestP901OwnGot(t *testing.T) {
	l := link.New(me, peer)
	early, earlyStays := roomy(2)
	next, nextStays := roomy(1)
	l.Got(here(2, 0, early))
	l.Got(here(2, 0, next)) // not the first one of its Seq
	l.Got(here(99, 0, next))
	if !earlyStays() || !nextStays() {
		t.Errorf("what was handed in: %+v, %+v", early, next)
	}
	spoil(early)
	told, _, _ := l.Got(here(1, 0, next))
	if !alike(told, []api.Letter{whole(1), whole(2)}) {
		t.Fatalf("what was handed in is turned: %+v", told)
	}
	spoil(told[0])
	spoil(told[1])
	if !nextStays() {
		t.Errorf("what was handed in: %+v", next)
	}
	later, _, _ := l.Got(here(3, 0, next))
	spoil(next)
	if !alike(later, []api.Letter{whole(1)}) {
		t.Errorf("what was told: %+v", later)
	}
	for n := 4; n < 40; n++ {
		l.Got(here(n+1, 0, whole(n+1)))
		spoiled, _, _ := l.Got(here(n, 0, whole(n)))
		for _, x := range spoiled {
			spoil(x)
		}
		clear(spoiled[:cap(spoiled)])
	}
	if !alike(later, []api.Letter{whole(1)}) {
		t.Errorf("what was told, at last: %+v", later)
	}
}

// TestP901OwnGotRest: what is done to letters that were told is nothing to those that are still kept.
func TestP901OwnGotRest(t *testing.T) {
	l := link.New(me, peer)
	for _, n := range []int{2, 4, 3, 6, 8, 7} {
		l.Got(here(n, 0, whole(n)))
	}
	for _, c := range []struct{ seq, upTo int }{{1, 4}, {5, 8}} {
		told, _, _ := l.Got(here(c.seq, 0, whole(c.seq)))
		var want []api.Letter
		for _, n := range span(c.seq, c.upTo) {
			want = append(want, whole(n))
		}
		if !alike(told, want) {
			t.Fatalf("behind %d: %+v", c.seq, told)
		}
		for _, x := range told {
			spoil(x)
		}
		clear(told[:cap(told)])
	}
}

// TestP902OwnTick: what Tick told is the caller's own, each time anew.
func TestP902OwnTick(t *testing.T) {
	l := link.New(me, peer)
	var want []api.Packet
	for n := 1; n <= 3; n++ {
		want = append(want, there(n, 0, whole(n)))
		l.Send(whole(n))
	}
	first := after(l)
	for range 3 {
		got := after(l)
		if !alike(got, want) {
			t.Fatalf("Tick: %+v", got)
		}
		spoilAll(got)
	}
	acked(t, "one", l, 1)
	spoilAll(after(l))
	l.Send(whole(4))
	if got := after(l); !alike(got, append(want[1:], there(4, 0, whole(4)))) {
		t.Errorf("Tick behind an Ack: %+v", got)
	}
	acked(t, "all", l, 4)
	for n := 5; n < 40; n++ {
		l.Send(whole(n))
	}
	if want := want[:3]; !alike(first, []api.Packet{want[0], there(2, 0, whole(2)), there(3, 0, whole(3))}) {
		t.Errorf("what was told first: %+v", first)
	}
}

// TestP901OwnApart: the lists of one letter, and those of two, share nothing, though they did when they were handed in.
func TestP901OwnApart(t *testing.T) {
	list := slices.Repeat([]api.Item{{Key: "k", Value: "v"}}, 3)
	shared := append(slices.Clone(list), api.Item{Key: "behind"})[:3]
	x := api.Letter{Kind: 1, Items: shared, Told: api.Told{Items: shared}}
	holdApart := func(what string, letters ...api.Letter) {
		t.Helper()
		for at, y := range letters {
			if !slices.Equal(y.Items, list) || !slices.Equal(y.Told.Items, list) {
				t.Errorf("%s, letter %d: %+v", what, at, y)
			}
			_ = append(y.Items, api.Item{Key: "mine"}, api.Item{Key: "mine"})
			clear(y.Items)
			if !slices.Equal(y.Told.Items, list) {
				t.Errorf("%s, two lists of letter %d: %+v", what, at, y)
			}
			spoil(y)
		}
		if !slices.Equal(shared, list) || shared[:4][3].Key != "behind" {
			t.Errorf("%s: what was handed in: %v", what, shared[:4])
		}
	}
	l := link.New(me, peer)
	p, q := l.Send(x), l.Send(x)
	holdApart("Send", p.Letter, q.Letter)
	again := after(l)
	holdApart("Tick", again[0].Letter, again[1].Letter)
	l.Got(here(2, 0, x))
	l.Got(here(3, 0, x))
	told, _, _ := l.Got(here(1, 0, x))
	if len(told) != 3 {
		t.Fatalf("Got: %+v", told)
	}
	holdApart("Got", told...)
	again = after(l)
	holdApart("Tick, later", again[0].Letter, again[1].Letter)
}

// TestP901OwnNone: lists of none stay none, and what lies behind them is nobody else's.
func TestP901OwnNone(t *testing.T) {
	room := make([]api.Item, 0, 4)
	for _, x := range []api.Letter{{Kind: 1}, {Kind: 1, Items: room, Told: api.Told{Items: room}}} {
		l := link.New(me, peer)
		letters := []api.Letter{l.Send(x).Letter, after(l)[0].Letter}
		l.Got(here(2, 0, x))
		told, _, _ := l.Got(here(1, 0, x))
		for _, y := range append(letters, told...) {
			if len(y.Items)+len(y.Told.Items) != 0 {
				t.Errorf("%+v", y)
			}
			_ = append(y.Items, api.Item{Key: "mine"})
			_ = append(y.Told.Items, api.Item{Key: "mine"})
		}
		if behind := room[:4]; !slices.Equal(behind, make([]api.Item, 4)) {
			t.Errorf("what was handed in: %v", behind)
		}
	}
}
