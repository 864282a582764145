package link_test

import (
	"math"
	"reflect"
	"slices"
	"strconv"
	"testing"

	"rosary/api"
	"rosary/link"
)

func TestP901New(t *testing.T) {
	ends := []int{0, 1, 2, 15, 100, 119, 255, 256, -1, math.MaxInt, math.MinInt}
	for _, from := range ends {
		for _, to := range ends {
			what := "a link from " + strconv.Itoa(from) + " to " + strconv.Itoa(to)
			l := link.New(from, to)
			hold(t, what, l, 0, 0, true)
			if p := l.Send(whole(7)); !reflect.DeepEqual(p, api.Packet{From: from, To: to, Seq: 1, Letter: whole(7)}) {
				t.Errorf("%s: Send tells %+v", what, p)
			}
			told, answer, is := l.Got(api.Packet{From: to, To: from, Seq: 1, Ack: 1, Letter: whole(8)})
			if !is || !alike(told, []api.Letter{whole(8)}) || !reflect.DeepEqual(answer, api.Packet{From: from, To: to, Ack: 1}) {
				t.Errorf("%s: Got tells %+v, %+v, %t", what, told, answer, is)
			}
			hold(t, what+", at the end", l, 0, 1, true)
		}
	}
	one, other := sent(2), link.New(me, peer) // each has letters of its own
	gets(t, "the one", one, 2, 0)
	hold(t, "the other one", other, 0, 0, true)
	if p := other.Send(plain(9)); p.Seq != 1 {
		t.Errorf("the other one begins with Seq %d", p.Seq)
	}
	hold(t, "the one", one, 2, 0, false)
}

func TestP901Send(t *testing.T) {
	l := link.New(me, peer)
	for n := 1; n <= 300; n++ { // as many as one likes, more than are kept at the other end too
		if p := l.Send(whole(n)); !reflect.DeepEqual(p, there(n, 0, whole(n))) {
			t.Fatalf("Send number %d: %+v", n, p)
		}
		hold(t, "behind Send number "+strconv.Itoa(n), l, n, 0, false)
	}
	acked(t, "all", l, 300)
	if p := l.Send(whole(9)); !reflect.DeepEqual(p, there(301, 0, whole(9))) { // none of its numbers is there twice
		t.Errorf("Send when nothing waits: %+v", p)
	}
	hold(t, "one behind all", l, 1, 0, false)
	for _, x := range []api.Letter{{}, {Kind: -1, Id: math.MinInt}, {Kind: 99, Items: slices.Repeat([]api.Item{{}}, 500)}} {
		if p := link.New(me, peer).Send(x); !reflect.DeepEqual(p, there(1, 0, x)) { // whatever is in it
			t.Errorf("Send of %+v: %+v", x, p)
		}
	}
	two := sent(0)
	if p, q := two.Send(plain(5)), two.Send(plain(5)); p.Seq != 1 || q.Seq != 2 { // alike ones are each on their own
		t.Errorf("Send of alike letters: %d, %d", p.Seq, q.Seq)
	}
	hold(t, "alike letters", two, 2, 0, false)
}

// TestP901SendAck: what is sent tells how many came till then, in order, whatever else is kept.
func TestP901SendAck(t *testing.T) {
	l := link.New(me, peer)
	came := []struct{ seq, ack int }{{0, 0}, {1, 1}, {3, 1}, {4, 1}, {1, 1}, {70, 1}, {2, 4}, {0, 4}, {5, 5}}
	for n, c := range came {
		if c.seq > 0 {
			l.Got(here(c.seq, 0, plain(c.seq)))
		}
		if p := l.Send(plain(n + 1)); !reflect.DeepEqual(p, there(n+1, c.ack, plain(n+1))) {
			t.Errorf("Send number %d: %+v, not Ack %d", n+1, p, c.ack)
		}
	}
	if p := l.Send(plain(10)); p.Ack != 5 { // an Ack of ours is none of theirs
		t.Errorf("Send: Ack %d", p.Ack)
	}
	acked(t, "of what was sent", l, 7)
	if p := l.Send(plain(11)); p.Ack != 5 || p.Seq != 11 {
		t.Errorf("Send behind an Ack: Seq %d, Ack %d", p.Seq, p.Ack)
	}
}

func TestP901Came(t *testing.T) {
	l := link.New(me, peer)
	for _, c := range []struct{ seq, came int }{
		{1, 1}, {1, 1}, {2, 2}, {4, 2}, {5, 2}, {7, 2}, {2, 2}, {67, 2}, {3, 5}, {4, 5}, {6, 7}, {8, 8}, {0, 8},
	} {
		l.Got(here(c.seq, 0, plain(c.seq)))
		if l.Came() != c.came {
			t.Errorf("Came behind Seq %d: %d, not %d", c.seq, l.Came(), c.came)
		}
	}
	refused(t, "Came", l, here(9, 1, plain(9)))
	l.Send(plain(1))
	l.Tick()
	acked(t, "Came", l, 1)
	hold(t, "what is sent is none that came", l, 0, 8, true)
	for n := 9; n <= 500; n++ {
		gets(t, "many", l, n, n, n)
	}
}

func TestP901Waits(t *testing.T) {
	for many := range 6 {
		for ack := range many + 1 {
			what := "Ack " + strconv.Itoa(ack) + " of " + strconv.Itoa(many)
			l := sent(many)
			hold(t, what+", ahead of it", l, many, 0, many == 0)
			acked(t, what, l, ack)
			hold(t, what, l, many-ack, 0, many == ack)
			for elder := range ack + 1 { // an elder one, and the same one again
				acked(t, what+", elder", l, elder)
				hold(t, what+", behind an elder one", l, many-ack, 0, many == ack)
			}
			l.Send(plain(9))
			hold(t, what+", and one more", l, many-ack+1, 0, false)
			refused(t, what, l, here(0, many+2, api.Letter{}))
			hold(t, what+", and one too many", l, many-ack+1, 0, false)
			acked(t, what, l, many+1)
			hold(t, what+", and all", l, 0, 0, true)
		}
	}
	l := sent(6)
	for _, c := range []struct{ ack, waits int }{{2, 4}, {1, 4}, {5, 1}, {0, 1}, {4, 1}, {5, 1}, {6, 0}, {3, 0}, {6, 0}} {
		acked(t, "one behind the other", l, c.ack)
		hold(t, "one behind the other, "+strconv.Itoa(c.ack), l, c.waits, 0, c.waits == 0)
	}
}

// TestP901WaitsWhich: an Ack lets go of the first letters, and of none of the others.
func TestP901WaitsWhich(t *testing.T) {
	for many := range 5 {
		for first := range many + 1 {
			for second := range many + 1 {
				what := strconv.Itoa(first) + ", then " + strconv.Itoa(second) + " of " + strconv.Itoa(many)
				l := sent(many)
				acked(t, what, l, first)
				acked(t, what, l, second)
				ticks(t, what, l, api.Resend-1)
				again(t, what, l, theres(0, span(max(first, second)+1, many)...))
			}
		}
	}
}

// TestP901GotAck: an Ack counts with a letter as without one, whatever becomes of the letter.
func TestP901GotAck(t *testing.T) {
	l := sent(9)
	for at, c := range []struct {
		seq, ack int
		waits    int
		told     []int
	}{
		{1, 1, 8, []int{1}}, // the next one
		{3, 3, 6, nil},      // one that is kept
		{3, 4, 5, nil},      // again
		{90, 5, 4, nil},     // one that is too far
		{1, 6, 3, nil},      // one that came
		{2, 2, 3, []int{2, 3}},
		{4, 9, 0, []int{4}},
	} {
		came := l.Came() + len(c.told)
		getsAs(t, "call "+strconv.Itoa(at), l, here(c.seq, c.ack, plain(c.seq)), came, c.told...)
		hold(t, "call "+strconv.Itoa(at), l, c.waits, came, c.waits == 0 && (at == 0 || at > 4))
	}
	if told, answer, is := l.Got(here(0, 9, whole(5))); !is || len(told) > 0 || !reflect.DeepEqual(answer, api.Packet{}) {
		t.Errorf("Seq 0 with a letter: %+v, %+v, %t", told, answer, is)
	}
	hold(t, "Seq 0 with a letter", l, 0, 4, true)
}

// TestP901GotWrong: what may not be taken is taken in no part.
func TestP901GotWrong(t *testing.T) {
	type turn struct {
		what string
		do   func(p *api.Packet)
	}
	wrong := []turn{
		{"the ends the other way round", func(p *api.Packet) { p.From, p.To = me, peer }},
		{"all wrong", func(p *api.Packet) { *p = api.Packet{From: 8, To: 9, Seq: -1, Ack: -1} }},
		{"the zero packet", func(p *api.Packet) { *p = api.Packet{} }},
	}
	for _, n := range []int{-1, 0, 3, 4, -2, 100, 256 + me, 256 + peer, 1<<32 + me, 1<<32 + peer, math.MaxInt, math.MinInt} {
		what := strconv.Itoa(n)
		wrong = append(wrong, turn{"From " + what, func(p *api.Packet) { p.From = n }}, turn{"To " + what, func(p *api.Packet) { p.To = n }})
	}
	wrong = append(wrong, turn{"From me", func(p *api.Packet) { p.From = me }}, turn{"To peer", func(p *api.Packet) { p.To = peer }})
	for _, n := range []int{-1, -2, -64, math.MinInt, math.MinInt + 1} {
		what := strconv.Itoa(n)
		wrong = append(wrong, turn{"Seq " + what, func(p *api.Packet) { p.Seq = n }}, turn{"Ack " + what, func(p *api.Packet) { p.Ack = n }})
	}
	for _, n := range []int{4, 5, 99, 1 << 32, math.MaxInt} {
		wrong = append(wrong, turn{"Ack " + strconv.Itoa(n) + " of 3", func(p *api.Packet) { p.Ack = n }})
	}
	for _, seq := range []int{0, 1, 2, 3, 4, 5, 90} {
		for _, c := range wrong {
			l := sent(3)
			acked(t, c.what, l, 1)
			gets(t, c.what, l, 1, 1, 1)
			gets(t, c.what, l, 3, 1)
			p := here(seq, 3, plain(50))
			c.do(&p)
			what := c.what + ", Seq " + strconv.Itoa(seq)
			refused(t, what, l, p)
			hold(t, what, l, 2, 1, false)
			gets(t, what+", behind it", l, 4, 1)
			gets(t, what+", behind it", l, 2, 4, 2, 3, 4)
			hold(t, what+", behind it", l, 2, 4, false)
			acked(t, what+", behind it", l, 3)
			hold(t, what+", at the end", l, 0, 4, true)
		}
	}
}

// TestP901GotAckMost: an Ack of just what was sent may be, one of one more may not, however much of it waits.
func TestP901GotAckMost(t *testing.T) {
	for many := range 70 {
		l := sent(many)
		what := "of " + strconv.Itoa(many) + " sent"
		refused(t, what, l, here(1, many+1, plain(1)))
		hold(t, what, l, many, 0, many == 0)
		acked(t, what, l, many)
		refused(t, what, l, here(1, many+1, plain(1)))
		hold(t, what, l, 0, 0, true)
		l.Send(plain(many + 1))
		getsAs(t, what, l, here(1, many+1, plain(1)), 1, 1)
		hold(t, what, l, 0, 1, true)
	}
}

func TestP901GotNext(t *testing.T) {
	l := link.New(me, peer)
	for n := 1; n <= 200; n++ {
		told, answer, is := l.Got(here(n, 0, whole(n)))
		if !is || !alike(told, []api.Letter{whole(n)}) || !reflect.DeepEqual(answer, there(0, n, api.Letter{})) {
			t.Fatalf("Got of %d: %+v, %+v, %t", n, told, answer, is)
		}
		hold(t, "in order", l, 0, n, true)
	}
	for _, x := range []api.Letter{{}, {Kind: -1, Id: math.MinInt}, {Kind: 99, From: peer + 7, To: me + 7}} { // whatever is in it
		if told, _, is := link.New(me, peer).Got(here(1, 0, x)); !is || !alike(told, []api.Letter{x}) {
			t.Errorf("Got of %+v: %+v, %t", x, told, is)
		}
	}
}

// TestP901GotFollow: those that were kept are told behind the next one, up to the first hole.
func TestP901GotFollow(t *testing.T) {
	const most = 7
	for set := range 1 << most { // which of those behind the first one are kept
		l := link.New(me, peer)
		kept, upTo := 0, 1
		for n := 2; n < most+2; n++ {
			if set>>(n-2)&1 == 0 {
				continue
			}
			gets(t, "kept", l, n, 0)
			kept++
			if upTo == n-1 {
				upTo = n
			}
		}
		what := "of those kept, " + strconv.FormatInt(int64(set), 2)
		hold(t, what, l, 0, 0, kept == 0)
		gets(t, what, l, 1, upTo, span(1, upTo)...)
		hold(t, what, l, 0, upTo, kept == upTo-1)
		for n := 2; n < most+2; n++ { // the holes, one behind the other
			if l.Came() >= n {
				gets(t, what+", what came", l, n, l.Came())
				continue
			}
			to := n
			for to <= most && set>>(to-1)&1 == 1 {
				to++
			}
			gets(t, what+", a hole", l, n, to, span(n, to)...)
		}
		hold(t, what+", at the end", l, 0, most+1, true)
	}
}

// TestP901GotOrder: in whatever order the letters of five come, all of them are told in theirs.
func TestP901GotOrder(t *testing.T) {
	var each func(came []int)
	each = func(came []int) {
		if len(came) == 5 {
			holdOrder(t, came)
			return
		}
		for n := 1; n <= 5; n++ {
			if !slices.Contains(came, n) {
				each(append(slices.Clone(came), n))
			}
		}
	}
	each(nil)
}

// holdOrder hands the letters of these numbers to a link, each of them twice.
func holdOrder(t *testing.T, order []int) {
	t.Helper()
	l := link.New(me, peer)
	for at, n := range order {
		upTo := l.Came()
		for slices.Contains(order[:at+1], upTo+1) {
			upTo++
		}
		gets(t, "some order", l, n, upTo, span(l.Came()+1, upTo)...)
		gets(t, "some order, again", l, n, upTo)
		hold(t, "some order", l, 0, upTo, upTo == at+1)
	}
}

// TestP901GotAhead: what is at most 64 ahead of what came is kept, what is farther is passed by.
func TestP901GotAhead(t *testing.T) {
	for _, came := range []int{0, 1, 2, 63, 64, 65, 130} {
		for _, far := range []int{2, 3, 62, 63, 64, 65, 66, 127, 128, 129, 1 << 16, 1<<32 + 2} {
			what := strconv.Itoa(far) + " ahead of " + strconv.Itoa(came)
			l := link.New(me, peer)
			for n := range came {
				gets(t, what, l, n+1, n+1, n+1)
			}
			gets(t, what, l, came+far, came)
			hold(t, what, l, 0, came, far > 64)
			upTo := min(came+far, came+66)
			for n := came + 1; n < upTo-1; n++ {
				gets(t, what, l, n, n, n)
			}
			if far <= 64 {
				gets(t, what, l, upTo-1, upTo, upTo-1, upTo)
				hold(t, what, l, 0, upTo, true)
				continue
			}
			gets(t, what, l, upTo-1, upTo-1, upTo-1)
			hold(t, what, l, 0, upTo-1, true)
		}
		l := link.New(me, peer)
		for n := range came {
			gets(t, "ahead by 1", l, n+1, n+1, n+1)
		}
		gets(t, "ahead by 1", l, came+1, came+1, came+1)
		gets(t, "as far as a number goes", l, math.MaxInt, came+1)
		hold(t, "as far as a number goes", l, 0, came+1, true)
	}
}

// TestP901GotWindow: all that may be kept is kept at once, and what may be goes on with what came.
func TestP901GotWindow(t *testing.T) {
	for _, back := range []bool{false, true} {
		l := link.New(me, peer)
		order := span(2, 70)
		if back {
			slices.Reverse(order)
		}
		for _, n := range order {
			gets(t, "all that may be", l, n, 0)
		}
		gets(t, "all that may be", l, 1, 64, span(1, 64)...)
		hold(t, "all that may be", l, 0, 64, true) // those up to 70 were passed by
		gets(t, "farther now", l, 128, 64)
		gets(t, "farther now", l, 129, 64)
		hold(t, "farther now", l, 0, 64, false)
		for n := 65; n < 127; n++ {
			gets(t, "farther now", l, n, n, n)
		}
		gets(t, "farther now", l, 127, 128, 127, 128)
		hold(t, "farther now", l, 0, 128, true)
	}
	// How far one is ahead is counted ahead of it, not behind what it lets follow.
	l := link.New(me, peer)
	gets(t, "ahead of 1", l, 65, 0)
	gets(t, "1", l, 1, 1, 1)
	hold(t, "1", l, 0, 1, true)
	gets(t, "ahead of 2", l, 65, 1)
	hold(t, "ahead of 2", l, 0, 1, false)
}

// TestP901GotTwice: of two letters with one Seq the first one counts, be it told or kept.
func TestP901GotTwice(t *testing.T) {
	l := link.New(me, peer)
	as := func(seq, id, came int, want ...int) {
		t.Helper()
		getsAs(t, "of one Seq", l, here(seq, 0, plain(id)), came, want...)
	}
	as(1, 10, 1, 10)
	as(1, 11, 1)
	as(3, 30, 1)
	as(3, 31, 1)
	as(4, 40, 1)
	as(3, 32, 1)
	as(4, 41, 1)
	as(66, 80, 1) // passed by, so it is no first one
	as(2, 20, 4, 20, 30, 40)
	as(2, 21, 4)
	as(3, 33, 4)
	as(4, 42, 4)
	as(66, 81, 4)
	as(66, 82, 4)
	for n := 5; n < 65; n++ {
		as(n, n, n, n)
	}
	as(65, 65, 66, 65, 81)
	for n := range 67 { // none of them comes again
		if n > 0 {
			as(n, 99, 66)
		}
	}
	hold(t, "at the end", l, 0, 66, true)
	refused(t, "of one Seq", l, here(67, 1, plain(1))) // what is not taken is no first one either
	as(68, 68, 66)
	as(67, 67, 68, 67, 68)
}

// TestP901GotAnswer: the second answer has no letter, and tells how many came with this one.
func TestP901GotAnswer(t *testing.T) {
	l := sent(4)
	for at, c := range []struct{ seq, ack, came int }{
		{1, 0, 1}, {1, 0, 1}, {5, 0, 1}, {66, 0, 1}, {70, 2, 1}, {2, 0, 2}, {4, 0, 2}, {3, 4, 5}, {3, 0, 5}, {1, 4, 5}, {6, 4, 6},
	} {
		_, answer, is := l.Got(here(c.seq, c.ack, whole(at)))
		if !is || !reflect.DeepEqual(answer, api.Packet{From: me, To: peer, Seq: 0, Ack: c.came}) {
			t.Errorf("call %d: %+v, %t", at, answer, is)
		}
		acked(t, "between", l, c.ack)
	}
	if p := l.Send(plain(5)); p.Seq != 5 { // what is answered has no number
		t.Errorf("Send behind answers: Seq %d", p.Seq)
	}
}

// none lists links that lead nowhere: none at all, and ones that were not made by New.
func none() []*link.Link {
	var zero link.Link
	return []*link.Link{nil, {}, new(link.Link), &zero}
}

func TestP901None(t *testing.T) {
	for _, l := range none() {
		for range 3 {
			if p := l.Send(whole(1)); !reflect.DeepEqual(p, api.Packet{}) {
				t.Errorf("Send: %+v", p)
			}
			for _, p := range []api.Packet{{}, {Seq: 1}, {Seq: 1, Letter: whole(1)}, {Seq: 2, Letter: whole(2)}, {Seq: 1, Ack: 1}, {Ack: 1}, {Seq: -1}, here(1, 0, plain(1))} {
				refused(t, "no link", l, p)
			}
			if n := l.Came(); n != 0 {
				t.Errorf("Came: %d", n)
			}
			if n := l.Waits(); n != 0 {
				t.Errorf("Waits: %d", n)
			}
		}
	}
}
