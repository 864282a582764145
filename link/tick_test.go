package link_test

import (
	"reflect"
	"strconv"
	"testing"

	"rosary/api"
	"rosary/link"
)

func TestP902Tick(t *testing.T) {
	ticks(t, "nothing was sent", link.New(me, peer), 5*api.Resend)
	l := sent(1) // the document's example
	for round := range 5 {
		what := "round " + strconv.Itoa(round)
		ticks(t, what, l, api.Resend-1)
		again(t, what, l, theres(0, 1))
		hold(t, what, l, 1, 0, false)
	}
	for many := range 70 {
		l := link.New(me, peer)
		var want []api.Packet
		for n := 1; n <= many; n++ {
			want = append(want, l.Send(whole(n)))
		}
		what := "of " + strconv.Itoa(many)
		for range 3 {
			ticks(t, what, l, api.Resend-1)
			if got := l.Tick(); !alike(got, want) {
				t.Fatalf("%s: Tick sends %+v", what, got)
			}
			hold(t, what, l, many, 0, many == 0)
		}
	}
}

// TestP902TickAhead: ticks that went by ahead of a Send are none of its own.
func TestP902TickAhead(t *testing.T) {
	for many := range 3 * api.Resend {
		what := strconv.Itoa(many) + " ticks ahead"
		l := link.New(me, peer)
		ticks(t, what, l, many)
		l.Send(plain(1))
		ticks(t, what, l, api.Resend-1)
		again(t, what, l, theres(0, 1))
		acked(t, what, l, 1)
		ticks(t, what+", nothing waits", l, many)
		l.Send(plain(2))
		ticks(t, what+", the next one", l, api.Resend-1)
		again(t, what+", the next one", l, theres(0, 2))
	}
}

// TestP902TickFirst: the first one that waits says when, and all that wait go with it.
func TestP902TickFirst(t *testing.T) {
	for apart := range api.Resend {
		what := "sent " + strconv.Itoa(apart) + " ticks behind the first one"
		l := sent(1)
		ticks(t, what, l, apart)
		l.Send(plain(2))
		ticks(t, what, l, api.Resend-1-apart)
		again(t, what, l, theres(0, 1, 2))
		for range 3 { // from now on they go together
			ticks(t, what, l, api.Resend-1)
			again(t, what, l, theres(0, 1, 2))
		}
	}
	l := link.New(me, peer) // one at each tick
	for n := 1; n <= 10; n++ {
		l.Send(plain(n))
		if n%api.Resend == 0 {
			again(t, "one at each tick", l, theres(0, span(1, n)...))
			continue
		}
		ticks(t, "one at each tick", l, 1)
	}
}

// TestP902TickAcked: when the first one is known to have come, the next one's own ticks count.
func TestP902TickAcked(t *testing.T) {
	for apart := range api.Resend {
		for when := apart; when < api.Resend; when++ {
			what := strconv.Itoa(apart) + " ticks apart, known at tick " + strconv.Itoa(when)
			l := sent(1)
			ticks(t, what, l, apart)
			l.Send(plain(2))
			l.Send(plain(3))
			ticks(t, what, l, when-apart)
			acked(t, what, l, 1)
			ticks(t, what, l, api.Resend-1-(when-apart))
			again(t, what, l, theres(0, 2, 3))
			ticks(t, what, l, 2)
			acked(t, what, l, 2)
			ticks(t, what, l, api.Resend-3) // sent again with the one that is gone
			again(t, what, l, theres(0, 3))
			acked(t, what, l, 1) // an elder one brings nothing back
			ticks(t, what, l, api.Resend-1)
			again(t, what, l, theres(0, 3))
			acked(t, what, l, 3)
			ticks(t, what+", nothing waits", l, 3*api.Resend)
		}
	}
}

// TestP902TickStill: nothing but time, an Ack and a Send changes what is sent again, and when.
func TestP902TickStill(t *testing.T) {
	between := []struct {
		what string
		do   func(l *link.Link)
	}{
		{"nothing", func(l *link.Link) {}},
		{"an Ack of none", func(l *link.Link) { l.Got(here(0, 0, api.Letter{})) }},
		{"an Ack of what is known", func(l *link.Link) { l.Got(here(0, 1, api.Letter{})) }},
		{"an Ack of too many", func(l *link.Link) { l.Got(here(0, 4, api.Letter{})) }},
		{"one from another one", func(l *link.Link) { l.Got(api.Packet{From: 9, To: me, Ack: 3}) }},
		{"looks", func(l *link.Link) { l.Waits(); l.Came(); l.Rest() }},
		{"a letter that is too far", func(l *link.Link) { l.Got(here(200, 1, plain(5))) }},
		{"a letter that is kept", func(l *link.Link) { l.Got(here(9, 1, plain(9))) }},
	}
	for _, c := range between {
		l := sent(3)
		acked(t, c.what, l, 1)
		for range 2 {
			for range api.Resend - 1 {
				c.do(l)
				ticks(t, c.what, l, 1)
			}
			c.do(l)
			again(t, c.what, l, theres(0, 2, 3))
		}
	}
}

// TestP902TickAck: what is sent again tells how many came till now, not till it was sent first.
func TestP902TickAck(t *testing.T) {
	l := sent(2)
	for _, c := range []struct{ seq, came int }{{0, 0}, {1, 1}, {3, 1}, {4, 1}, {2, 4}, {99, 4}, {5, 5}} {
		if c.seq > 0 {
			l.Got(here(c.seq, 0, plain(c.seq)))
		}
		ticks(t, "Ack", l, api.Resend-1)
		again(t, "Ack", l, theres(c.came, 1, 2))
	}
	ticks(t, "Ack", l, api.Resend-1)
	gets(t, "at the last tick", l, 6, 6, 6)
	again(t, "at the last tick", l, theres(6, 1, 2))
}

// TestP902TickSend: what is sent behind what was sent again goes with it, by the first one's ticks.
func TestP902TickSend(t *testing.T) {
	l := sent(1)
	ticks(t, "first", l, api.Resend-1)
	again(t, "first", l, theres(0, 1))
	ticks(t, "second", l, api.Resend-1)
	l.Send(plain(2))
	again(t, "second", l, theres(0, 1, 2))
	ticks(t, "third", l, 1)
	l.Send(plain(3))
	acked(t, "third", l, 2)
	ticks(t, "third", l, api.Resend-1)
	again(t, "third", l, theres(0, 3))
	acked(t, "fourth", l, 3)
	ticks(t, "fourth", l, api.Resend)
	l.Send(plain(4))
	ticks(t, "fourth", l, api.Resend-1)
	again(t, "fourth", l, theres(0, 4))
}

func TestP902Rest(t *testing.T) {
	for waits := range 3 {
		for kept := range 3 {
			what := strconv.Itoa(waits) + " wait, " + strconv.Itoa(kept) + " kept"
			l := sent(waits)
			for n := range kept {
				gets(t, what, l, n+2, 0)
			}
			hold(t, what, l, waits, 0, waits == 0 && kept == 0)
			for range 2 * api.Resend { // time alone brings no rest, and takes none
				l.Tick()
				hold(t, what+", later", l, waits, 0, waits == 0 && kept == 0)
			}
			acked(t, what, l, waits)
			hold(t, what+", all known", l, 0, 0, kept == 0)
			gets(t, what, l, 1, kept+1, span(1, kept+1)...)
			hold(t, what+", all told", l, 0, kept+1, true)
			l.Send(plain(1))
			hold(t, what+", one more", l, 1, kept+1, false)
		}
	}
	l := link.New(me, peer)
	gets(t, "the next one", l, 1, 1, 1)
	hold(t, "the next one", l, 0, 1, true)
	gets(t, "two of them", l, 3, 1)
	gets(t, "two of them", l, 5, 1)
	gets(t, "the first hole", l, 2, 3, 2, 3)
	hold(t, "the first hole", l, 0, 3, false)
	gets(t, "the second hole", l, 4, 5, 4, 5)
	hold(t, "the second hole", l, 0, 5, true)
}

func TestP902None(t *testing.T) {
	for _, l := range none() {
		for range 3 * api.Resend {
			l.Send(plain(1))
			l.Got(api.Packet{Seq: 2, Letter: plain(2)})
			if again := l.Tick(); len(again) > 0 {
				t.Errorf("Tick: %+v", again)
			}
			if !l.Rest() {
				t.Error("Rest: false")
			}
		}
		if p := l.Send(plain(1)); !reflect.DeepEqual(p, api.Packet{}) {
			t.Errorf("Send: %+v", p)
		}
	}
}
