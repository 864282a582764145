package link_test

import (
	"reflect"
	"slices"
	"strconv"
	"testing"

	"rosary/api"
	"rosary/link"
)

// pair is two ends of a link, and the packets between them.
type pair struct {
	t      *testing.T
	what   string
	ends   [2]*link.Link
	flying []api.Packet
	sent   [2][]api.Letter // by whom
	told   [2]int          // so many to whom
}

// newPair makes one with ends 0 and 1.
func newPair(t *testing.T, what string) *pair {
	return &pair{t: t, what: what, ends: [2]*link.Link{link.New(0, 1), link.New(1, 0)}}
}

// send lets an end send one more letter.
func (p *pair) send(from int) {
	x := whole(100*len(p.sent[from]) + from)
	p.sent[from] = append(p.sent[from], x)
	p.flying = append(p.flying, p.ends[from].Send(x))
}

// tick lets a tick go by at an end.
func (p *pair) tick(at int) {
	p.flying = append(p.flying, p.ends[at].Tick()...)
}

// deliver hands over a packet, which may stay under way, and holds what was told against what was sent.
func (p *pair) deliver(n int, stays bool) {
	p.t.Helper()
	if n < 0 || n >= len(p.flying) {
		return
	}
	packet := p.flying[n]
	if !stays {
		p.drop(n)
	}
	told, answer, is := p.ends[packet.To].Got(packet)
	if !is {
		p.t.Fatalf("%s: %+v is refused", p.what, packet)
	}
	if packet.Seq > 0 {
		p.flying = append(p.flying, answer)
	}
	rest := p.sent[packet.From][p.told[packet.To]:] // those that were not told yet
	if len(told) > len(rest) || !alike(told, rest[:len(told)]) {
		p.t.Fatalf("%s: told %+v of %+v", p.what, told, rest)
	}
	p.told[packet.To] += len(told)
	if came := p.ends[packet.To].Came(); came != p.told[packet.To] {
		p.t.Fatalf("%s: Came %d, told %d", p.what, came, p.told[packet.To])
	}
}

// drop loses a packet.
func (p *pair) drop(n int) {
	if n >= 0 && n < len(p.flying) {
		p.flying = slices.Delete(slices.Clone(p.flying), n, n+1)
	}
}

// round delivers what is under way, then lets a tick go by at both ends.
func (p *pair) round() {
	p.t.Helper()
	for range len(p.flying) {
		p.deliver(0, false)
	}
	p.tick(0)
	p.tick(1)
}

// settle delivers all till both ends are at rest: each letter was told once.
func (p *pair) settle() {
	p.t.Helper()
	rest := func() bool { return len(p.flying) == 0 && p.ends[0].Rest() && p.ends[1].Rest() }
	for range 10 * api.Resend {
		if rest() {
			break
		}
		p.round()
	}
	if !rest() {
		p.t.Fatalf("%s: no rest, %d under way", p.what, len(p.flying))
	}
	for from := range 2 {
		if told := p.told[1-from]; told != len(p.sent[from]) {
			p.t.Fatalf("%s: told %d, sent %d", p.what, told, len(p.sent[from]))
		}
		if waits := p.ends[from].Waits(); waits != 0 {
			p.t.Fatalf("%s: at rest %d wait", p.what, waits)
		}
	}
}

// TestP901Once: whatever is done with few packets, each letter comes once, in order.
func TestP901Once(t *testing.T) {
	turns := []func(p *pair){
		func(p *pair) { p.deliver(0, false) },
		func(p *pair) { p.deliver(0, true) },
		func(p *pair) { p.deliver(len(p.flying)-1, false) },
		func(p *pair) { p.deliver(1, true) },
		func(p *pair) { p.drop(0) },
		func(p *pair) { p.drop(1) },
		func(p *pair) { p.send(0) },
		func(p *pair) { p.tick(0); p.tick(0); p.tick(1) },
	}
	all := 1
	for range 5 {
		all *= len(turns)
	}
	for n := range all {
		p := newPair(t, "turns "+strconv.FormatInt(int64(n), len(turns)))
		p.send(0)
		p.send(0)
		p.send(1)
		for rest := n; rest > 0; rest /= len(turns) {
			turns[rest%len(turns)](p)
		}
		p.settle()
	}
}

// TestP902Once: of many packets, too, late, lost and twice as may be.
func TestP902Once(t *testing.T) {
	for seed := range 70 {
		p := newPair(t, "seed "+strconv.Itoa(seed))
		d := dice(seed)
		loss := seed % 7 // of ten
		for range 400 {
			n := d.roll(max(len(p.flying), 1))
			switch kind := d.roll(10); {
			case kind < 2:
				p.send(d.roll(2))
			case kind < 4:
				p.tick(d.roll(2))
			case d.roll(10) < loss:
				p.drop(n)
			default:
				p.deliver(n, d.roll(4) == 0)
			}
		}
		p.settle()
	}
}

// TestP902OnceLost: letters come, though all packets that go at first are lost, all answers, or each second one.
func TestP902OnceLost(t *testing.T) {
	for _, c := range []struct {
		what string
		lost func(n int, p api.Packet) bool
	}{
		{"nothing", func(n int, p api.Packet) bool { return false }},
		{"all", func(n int, p api.Packet) bool { return n < 20 }},
		{"all letters", func(n int, p api.Packet) bool { return n < 20 && p.Seq > 0 }},
		{"all answers", func(n int, p api.Packet) bool { return n < 20 && p.Seq == 0 }},
		{"each second one", func(n int, p api.Packet) bool { return n%2 == 0 }},
		{"all but each fifth one", func(n int, p api.Packet) bool { return n < 90 && n%5 > 0 }},
		{"each first letter of an end", func(n int, p api.Packet) bool { return n < 20 && p.Seq == 1 }},
		{"one way", func(n int, p api.Packet) bool { return n < 20 && p.From == 0 }},
	} {
		p := newPair(t, c.what+" lost")
		for n := range 150 {
			if n%3 == 0 {
				p.send(n % 2)
			}
			if len(p.flying) > 0 && c.lost(n, p.flying[0]) {
				p.drop(0)
			} else {
				p.deliver(0, false)
			}
			if n%10 == 0 {
				p.tick(0)
				p.tick(1)
			}
		}
		p.settle()
	}
}

// TestP902OnceMany: more letters than are kept, the first one of which is lost.
func TestP902OnceMany(t *testing.T) {
	for _, many := range []int{2, 63, 64, 65, 66, 130, 200} {
		for _, back := range []bool{false, true} {
			p := newPair(t, strconv.Itoa(many)+" letters")
			for range many {
				p.send(0)
			}
			p.drop(0)
			if back {
				slices.Reverse(p.flying)
			}
			p.settle()
		}
	}
}

// TestP901OnceSame: what is told of a packet that is there twice is nothing, but how many came.
func TestP901OnceSame(t *testing.T) {
	p := newPair(t, "twice")
	for range 9 {
		p.send(1)
		p.deliver(0, true)
		p.deliver(0, true)
		answers := p.flying[len(p.flying)-2:]
		if !reflect.DeepEqual(answers[0], answers[1]) || answers[0].Ack != len(p.sent[1]) {
			t.Errorf("answers to one that is there twice: %+v", answers)
		}
		for len(p.flying) > 0 {
			p.deliver(len(p.flying)-1, false)
		}
	}
	p.settle()
}
