package link_test

import (
	"reflect"
	"slices"
	"strconv"
	"testing"

	"rosary/api"
	"rosary/link"
)

// The ends of the links that the tests make, where they say nothing else.
const me, peer = 1, 2

// plain makes a letter that is known by its number.
func plain(n int) api.Letter {
	return api.Letter{Kind: api.KindLoad, Id: n}
}

// whole makes one with something in each of its fields, known by its number.
func whole(n int) api.Letter {
	list := func(name string, many int) (items []api.Item) {
		for i := range many {
			items = append(items, api.Item{Key: name + strconv.Itoa(n), Value: strconv.Itoa(i)})
		}
		return items
	}
	return api.Letter{
		Kind: 5, From: 6, To: 7, Id: n,
		Ask:  api.Ask{Op: 9, Key: "key", Value: "value", To: "to", Most: 10},
		Told: api.Told{Errno: api.ErrElse, Value: "told", Items: list("told", 2), More: true, Next: "next", Node: 11},
		Arc:  api.Arc{From: 12, To: 13}, Epoch: 14, Items: list("item", 3), N: 15, Node: 16,
	}
}

// here makes a packet from peer to me.
func here(seq, ack int, x api.Letter) api.Packet {
	return api.Packet{From: peer, To: me, Seq: seq, Ack: ack, Letter: x}
}

// there makes a packet from me to peer.
func there(seq, ack int, x api.Letter) api.Packet {
	return api.Packet{From: me, To: peer, Seq: seq, Ack: ack, Letter: x}
}

// plains lists plain letters of these numbers.
func plains(numbers ...int) []api.Letter {
	var all []api.Letter
	for _, n := range numbers {
		all = append(all, plain(n))
	}
	return all
}

// theres lists packets from me to peer, with plain letters whose numbers are their Seqs.
func theres(ack int, seqs ...int) []api.Packet {
	var all []api.Packet
	for _, n := range seqs {
		all = append(all, there(n, ack, plain(n)))
	}
	return all
}

// span lists the numbers from one up to another.
func span(from, to int) []int {
	var all []int
	for n := from; n <= to; n++ {
		all = append(all, n)
	}
	return all
}

// alike holds lists against one another; one of nothing is as a nil one.
func alike[T any](a, b []T) bool {
	return len(a) == len(b) && (len(a) == 0 || reflect.DeepEqual(a, b))
}

// sent makes a link from me to peer that has sent plain letters of the numbers from 1 up to many.
func sent(many int) *link.Link {
	l := link.New(me, peer)
	for n := range many {
		l.Send(plain(n + 1))
	}
	return l
}

// hold holds what a link tells of itself against what it should.
func hold(t *testing.T, what string, l *link.Link, waits, came int, rest bool) {
	t.Helper()
	if l.Waits() != waits || l.Came() != came || l.Rest() != rest {
		t.Fatalf("%s: Waits %d, Came %d, Rest %t, not %d, %d, %t", what, l.Waits(), l.Came(), l.Rest(), waits, came, rest)
	}
}

// gets hands a link a plain letter whose number is its Seq, and holds how many came and what is told against what should be.
func gets(t *testing.T, what string, l *link.Link, seq, came int, want ...int) {
	t.Helper()
	getsAs(t, what, l, here(seq, 0, plain(seq)), came, want...)
}

// getsAs is gets of a packet.
func getsAs(t *testing.T, what string, l *link.Link, p api.Packet, came int, want ...int) {
	t.Helper()
	told, answer, is := l.Got(p)
	if !is || !alike(told, plains(want...)) || !reflect.DeepEqual(answer, there(0, came, api.Letter{})) {
		t.Fatalf("%s: Got of %d tells %+v, %+v, %t", what, p.Seq, told, answer, is)
	}
	if l.Came() != came {
		t.Fatalf("%s: Came %d, not %d", what, l.Came(), came)
	}
}

// acked hands a link a packet without a letter.
func acked(t *testing.T, what string, l *link.Link, ack int) {
	t.Helper()
	told, answer, is := l.Got(here(0, ack, api.Letter{}))
	if !is || len(told) > 0 || !reflect.DeepEqual(answer, api.Packet{}) {
		t.Fatalf("%s: Got of Ack %d tells %+v, %+v, %t", what, ack, told, answer, is)
	}
}

// refused hands a link a packet that it may not take.
func refused(t *testing.T, what string, l *link.Link, p api.Packet) {
	t.Helper()
	told, answer, is := l.Got(p)
	if is || len(told) > 0 || !reflect.DeepEqual(answer, api.Packet{}) {
		t.Errorf("%s: Got of %+v tells %+v, %+v, %t", what, p, told, answer, is)
	}
}

// ticks lets ticks go by at which nothing is sent again.
func ticks(t *testing.T, what string, l *link.Link, many int) {
	t.Helper()
	for n := range many {
		if again := l.Tick(); len(again) > 0 {
			t.Fatalf("%s: tick %d of %d sends %+v", what, n+1, many, again)
		}
	}
}

// again lets a tick go by at which letters are sent again.
func again(t *testing.T, what string, l *link.Link, want []api.Packet) {
	t.Helper()
	if got := l.Tick(); !slices.EqualFunc(got, want, func(a, b api.Packet) bool { return reflect.DeepEqual(a, b) }) {
		t.Fatalf("%s: Tick sends %+v, not %+v", what, got, want)
	}
}
