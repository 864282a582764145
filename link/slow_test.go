package link_test

import (
	"reflect"
	"strconv"
	"strings"
	"testing"

	"rosary/api"
	"rosary/link"
)

// slow is what the tests hold a link against: the chapter's words, with all that ever went by.
type slow struct {
	sent  []api.Letter
	at    []int // the tick at which each was sent, or sent again
	known int   // so many of them are known to have come
	came  []api.Letter
	kept  map[int]api.Letter
	tick  int
}

func (s *slow) Send(x api.Letter) api.Packet {
	s.sent, s.at = append(s.sent, x), append(s.at, s.tick)
	return there(len(s.sent), len(s.came), x)
}

func (s *slow) Got(p api.Packet) (told []api.Letter, answer api.Packet, is bool) {
	if p.From != peer || p.To != me || p.Seq < 0 || p.Ack < 0 || p.Ack > len(s.sent) {
		return nil, api.Packet{}, false
	}
	s.known = max(s.known, p.Ack)
	if p.Seq == 0 {
		return nil, api.Packet{}, true
	}
	if _, is := s.kept[p.Seq]; !is && p.Seq > len(s.came) && p.Seq-len(s.came) <= 64 {
		s.kept[p.Seq] = p.Letter
	}
	for x, is := s.kept[len(s.came)+1]; is; x, is = s.kept[len(s.came)+1] {
		delete(s.kept, len(s.came)+1)
		s.came, told = append(s.came, x), append(told, x)
	}
	return told, there(0, len(s.came), api.Letter{}), true
}

func (s *slow) Tick() (again []api.Packet) {
	s.tick++
	if s.known == len(s.sent) || s.tick-s.at[s.known] < 4 {
		return nil
	}
	for n := s.known; n < len(s.sent); n++ {
		s.at[n] = s.tick
		again = append(again, there(n+1, len(s.came), s.sent[n]))
	}
	return again
}

func (s *slow) Waits() int { return len(s.sent) - s.known }
func (s *slow) Came() int  { return len(s.came) }
func (s *slow) Rest() bool { return s.Waits() == 0 && len(s.kept) == 0 }

// end is what a link and a slow one both are.
type end interface {
	Send(x api.Letter) api.Packet
	Got(p api.Packet) ([]api.Letter, api.Packet, bool)
	Tick() []api.Packet
	Waits() int
	Came() int
	Rest() bool
}

// outcome is all that an act tells, and what the end tells of itself behind it.
type outcome struct {
	packets     []api.Packet
	letters     []api.Letter
	is          bool
	waits, came int
	rest        bool
}

// act does something with an end; n is another one each time.
type act struct {
	what string
	do   func(e end, n int) outcome
}

// state tells what an end tells of itself, beside what an act told.
func state(e end, o outcome) outcome {
	o.waits, o.came, o.rest = e.Waits(), e.Came(), e.Rest()
	return o
}

// comes is the act of a packet that comes.
func comes(what string, packet func(e end, x api.Letter) api.Packet) act {
	return act{what, func(e end, n int) outcome {
		told, answer, is := e.Got(packet(e, plain(n)))
		return state(e, outcome{packets: []api.Packet{answer}, letters: told, is: is})
	}}
}

// next is the act of a letter that comes, so far ahead of what came, with an Ack.
func next(far, ack int) act {
	return comes("Seq "+strconv.Itoa(far)+" ahead, Ack "+strconv.Itoa(ack), func(e end, x api.Letter) api.Packet {
		return here(e.Came()+far, ack, x)
	})
}

// acts lists what is done one behind the other.
func acts() []act {
	lets := func(many int) act {
		return act{strconv.Itoa(many) + " ticks", func(e end, n int) outcome {
			var all []api.Packet
			for range many {
				all = append(all, e.Tick()...)
			}
			return state(e, outcome{packets: all})
		}}
	}
	return []act{
		{"Send", func(e end, n int) outcome {
			return state(e, outcome{packets: []api.Packet{e.Send(plain(n))}})
		}},
		lets(1), lets(3), next(1, 0), next(2, 1), next(3, 0), next(0, 2), next(-1, 0), next(64, 0), next(65, 1),
		comes("Ack 1", func(e end, x api.Letter) api.Packet { return here(0, 1, x) }),
		comes("Ack 3", func(e end, x api.Letter) api.Packet { return here(0, 3, x) }),
		comes("Ack -1", func(e end, x api.Letter) api.Packet { return here(e.Came()+1, -1, x) }),
		comes("from another one", func(e end, x api.Letter) api.Packet {
			return api.Packet{From: me, To: me, Seq: e.Came() + 1, Ack: 1, Letter: x}
		}),
		comes("for another one", func(e end, x api.Letter) api.Packet {
			return api.Packet{From: peer, To: peer, Seq: e.Came() + 1, Ack: 1, Letter: x}
		}),
	}
}

// even brings lists of nothing to one form.
func (o outcome) even() outcome {
	if len(o.packets) == 0 {
		o.packets = nil
	}
	if len(o.letters) == 0 {
		o.letters = nil
	}
	return o
}

// play does acts with a link and with a slow one, and holds them against one another behind each.
func play(t *testing.T, list []act, numbers []int) {
	t.Helper()
	l, s := link.New(me, peer), &slow{kept: map[int]api.Letter{}}
	for n, number := range numbers {
		a := list[number]
		got, want := a.do(l, n+1).even(), a.do(s, n+1).even()
		if !reflect.DeepEqual(got, want) {
			var done []string
			for _, number := range numbers[:n+1] {
				done = append(done, list[number].what)
			}
			t.Fatalf("%s: %+v, not %+v", strings.Join(done, "; "), got, want)
		}
	}
}

// TestP901Slow: every four acts one behind the other.
func TestP901Slow(t *testing.T) {
	list := acts()
	const long = 4
	all := 1
	for range long {
		all *= len(list)
	}
	for at := range all {
		numbers := make([]int, long)
		for n := range numbers {
			numbers[n], at = at%len(list), at/len(list)
		}
		play(t, list, numbers)
	}
}

// TestP902Slow: many acts one behind the other, some of them more often than others.
func TestP902Slow(t *testing.T) {
	list := acts()
	for seed := range 300 {
		d := dice(seed)
		numbers := make([]int, 200)
		for n := range numbers {
			numbers[n] = d.roll(len(list))
			if d.roll(3) == 0 {
				numbers[n] = d.roll(4)
			}
		}
		play(t, list, numbers)
	}
}

// dice draws numbers, the same ones for the same beginning each time.
type dice uint64

// roll tells a number from 0 on, below most.
func (d *dice) roll(most int) int {
	*d = *d*6364136223846793005 + 1442695040888963407
	return int(uint64(*d>>33) % uint64(most))
}
