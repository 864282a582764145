package bag_test

import (
	"math"
	"reflect"
	"slices"
	"strconv"
	"strings"
	"testing"

	"rosary/api"
	"rosary/bag"
)

// plain makes a packet that is known by its number.
func plain(n int) api.Packet {
	return api.Packet{From: n, To: 100 + n, Seq: n, Ack: n, Letter: api.Letter{Kind: api.KindLoad}}
}

// whole makes one with something in each of its fields, known by its number.
func whole(n int) api.Packet {
	list := func(name string, many int) (items []api.Item) {
		for i := range many {
			items = append(items, api.Item{Key: name + strconv.Itoa(n), Value: strconv.Itoa(i)})
		}
		return items
	}
	return api.Packet{From: 1, To: 2, Seq: n, Ack: 4, Letter: api.Letter{
		Kind: 5, From: 6, To: 7, Id: 8,
		Ask:  api.Ask{Op: 9, Key: "key", Value: "value", To: "to", Most: 10},
		Told: api.Told{Errno: api.ErrElse, Value: "told", Items: list("told", 2), More: true, Next: "next", Node: 11},
		Arc:  api.Arc{From: 12, To: 13}, Epoch: 14, Items: list("item", 3), N: 15, Node: 16,
	}}
}

// filled makes a bag for so many, with packets of these numbers.
func filled(t *testing.T, most int, numbers ...int) *bag.Bag {
	t.Helper()
	b := bag.New(most)
	for _, n := range numbers {
		if !b.Put(plain(n)) {
			t.Fatalf("Put of %d into a bag for %d: false", n, most)
		}
	}
	return b
}

// empty drops all packets.
func empty(b *bag.Bag) {
	for range b.Len() {
		b.Drop(0)
	}
}

// upTo lists the numbers from 0 on.
func upTo(most int) []int {
	var all []int
	for n := range most {
		all = append(all, n)
	}
	return all
}

// spelt tells the numbers of packets.
func spelt(numbers []int) string {
	var all []string
	for _, n := range numbers {
		all = append(all, strconv.Itoa(n))
	}
	return strings.Join(all, ",")
}

// hold holds a bag of plain packets against those that should be in it: their order, how many, and whence whither they go.
func hold(t *testing.T, what string, b *bag.Bag, want ...int) {
	t.Helper()
	var got []int
	for n, p := range b.All() {
		if n != len(got) {
			t.Fatalf("%s: All tells number %d as the %d-th", what, n, len(got))
		}
		if !reflect.DeepEqual(p, plain(p.Seq)) {
			t.Fatalf("%s: All tells %+v", what, p)
		}
		got = append(got, p.Seq)
	}
	if !slices.Equal(got, want) {
		t.Fatalf("%s: has %s, not %s", what, spelt(got), spelt(want))
	}
	if b.Len() != len(want) {
		t.Fatalf("%s: Len %d, not %d", what, b.Len(), len(want))
	}
	for _, n := range want[:min(len(want), 9)] {
		many := 0
		for _, other := range want {
			if other == n {
				many++
			}
		}
		if got := b.On(n, 100+n); got != many {
			t.Fatalf("%s: On(%d, %d) is %d, not %d", what, n, 100+n, got, many)
		}
	}
}

// outside lists numbers that none of so many has.
func outside(many int) []int {
	return []int{-1, -2, many, many + 1, many + api.MaxBag, -many - 1, math.MaxInt, math.MinInt, 1 << 32, -1 << 32}
}

// noRoom lists bags that may have nothing: none at all, one that was not made by New, and those for none, and for fewer.
func noRoom() []*bag.Bag {
	return []*bag.Bag{nil, {}, bag.New(0), bag.New(-1), bag.New(math.MinInt)}
}

func TestP801New(t *testing.T) {
	for _, c := range []struct{ most, want int }{
		{math.MinInt, 0}, {-api.MaxBag, 0}, {-2, 0}, {-1, 0},
		{0, 0}, {1, 1}, {2, 2}, {7, 7}, {api.MaxBag - 1, api.MaxBag - 1}, {api.MaxBag, api.MaxBag},
		{api.MaxBag + 1, api.MaxBag}, {2 * api.MaxBag, api.MaxBag}, {1 << 32, api.MaxBag}, {math.MaxInt, api.MaxBag},
	} {
		what := "a bag for " + strconv.Itoa(c.most)
		b := bag.New(c.most)
		hold(t, what, b)
		for n := range c.want + 3 {
			if got := b.Put(plain(n)); got != (n < c.want) {
				t.Fatalf("%s: Put of number %d: %t", what, n, got)
			}
			if b.Len() != min(n+1, c.want) {
				t.Fatalf("%s: Len %d behind Put of number %d", what, b.Len(), n)
			}
		}
		if b.Twice(0) {
			t.Errorf("%s: Twice with no room: true", what)
		}
		hold(t, what+", full", b, upTo(c.want)...)
		if got := b.Drop(0); got != (c.want > 0) {
			t.Fatalf("%s: Drop(0): %t", what, got)
		}
		if first, second := b.Put(plain(3000)), b.Put(plain(3001)); first != (c.want > 0) || second {
			t.Errorf("%s: Put where one had gone: %t, then %t", what, first, second)
		}
	}
	one, other := bag.New(2), bag.New(2) // each has packets of its own
	one.Put(plain(1))
	hold(t, "another one", other)
	other.Put(plain(2))
	hold(t, "the one", one, 1)
}

func TestP801Put(t *testing.T) {
	b := bag.New(4)
	for n, p := range []api.Packet{whole(1), {}, {From: -1, To: math.MinInt, Seq: -5, Ack: math.MaxInt, Letter: api.Letter{Kind: 99}}, whole(4)} {
		if !b.Put(p) {
			t.Fatalf("Put of %+v: false", p)
		}
		if got, is := last(b); !is || !reflect.DeepEqual(got, p) || b.Len() != n+1 {
			t.Fatalf("Put: %+v is the last one, not %+v", got, p)
		}
	}
	for most := 1; most <= 5; most++ {
		b := filled(t, most, upTo(most-1)...)
		if !b.Put(plain(7)) {
			t.Errorf("Put with room for one more of %d: false", most)
		}
		hold(t, "room for one more", b, append(upTo(most-1), 7)...)
		if b.Put(plain(8)) {
			t.Errorf("Put with no room of %d: true", most)
		}
		hold(t, "no room", b, append(upTo(most-1), 7)...)
	}
	b = filled(t, 3, 5, 5, 5) // alike ones are each on their own
	hold(t, "alike", b, 5, 5, 5)
}

// last tells the packet that All tells last.
func last(b *bag.Bag) (p api.Packet, is bool) {
	for _, p = range b.All() {
		is = true
	}
	return p, is
}

// TestP801PutLost: what found no room does not come back when there is room again.
func TestP801PutLost(t *testing.T) {
	b := filled(t, 2, 1, 2)
	for n := range 5 {
		b.Put(plain(50 + n))
		b.Twice(0)
	}
	hold(t, "behind what was lost", b, 1, 2)
	for _, want := range []int{1, 2} {
		if p, is := b.Take(0); !is || p.Seq != want {
			t.Errorf("Take: %d, %t, not %d", p.Seq, is, want)
		}
	}
	hold(t, "all taken", b)
	if p, is := b.Take(0); is {
		t.Errorf("what was lost is there: %d", p.Seq)
	}
	b.Put(plain(3))
	hold(t, "one that came later", b, 3)
	if b.On(50, 150) != 0 {
		t.Error("what was lost is under way")
	}
}

func TestP801Take(t *testing.T) {
	for many := range 6 {
		for n := range many {
			b := filled(t, many, upTo(many)...)
			p, is := b.Take(n)
			if !is || !reflect.DeepEqual(p, plain(n)) {
				t.Errorf("Take(%d) of %d: %+v, %t", n, many, p, is)
			}
			rest := slices.Delete(upTo(many), n, n+1)
			hold(t, "behind Take("+strconv.Itoa(n)+")", b, rest...)
			if !b.Put(plain(40)) {
				t.Errorf("Put where one was taken: false")
			}
			hold(t, "Put where one was taken", b, append(rest, 40)...)
		}
		for _, n := range outside(many) {
			b := filled(t, many+1, upTo(many)...)
			if p, is := b.Take(n); is || !reflect.DeepEqual(p, api.Packet{}) {
				t.Errorf("Take(%d) of %d: %+v, %t", n, many, p, is)
			}
			hold(t, "behind Take of none", b, upTo(many)...)
		}
	}
	b := bag.New(3)
	for n := range 3 {
		b.Put(whole(n))
	}
	for _, c := range []struct{ n, want int }{{1, 1}, {1, 2}, {0, 0}} {
		if p, is := b.Take(c.n); !is || !reflect.DeepEqual(p, whole(c.want)) {
			t.Errorf("Take(%d): %+v, %t", c.n, p, is)
		}
	}
	hold(t, "all taken", b)
}

func TestP801Drop(t *testing.T) {
	for many := range 6 {
		for n := range many {
			b := filled(t, many, upTo(many)...)
			if !b.Drop(n) {
				t.Errorf("Drop(%d) of %d: false", n, many)
			}
			rest := slices.Delete(upTo(many), n, n+1)
			hold(t, "behind Drop("+strconv.Itoa(n)+")", b, rest...)
			if !b.Put(plain(40)) {
				t.Errorf("Put where one was dropped: false")
			}
			hold(t, "Put where one was dropped", b, append(rest, 40)...)
		}
		for _, n := range outside(many) {
			b := filled(t, many+1, upTo(many)...)
			if b.Drop(n) {
				t.Errorf("Drop(%d) of %d: true", n, many)
			}
			hold(t, "behind Drop of none", b, upTo(many)...)
		}
	}
	b := filled(t, 3, 1, 2, 3)
	for want := 2; want >= -1; want-- { // the last one, till there is none
		if got := b.Drop(b.Len() - 1); got != (want >= 0) || b.Len() != max(want, 0) {
			t.Errorf("Drop of the last one: %t, Len %d", got, b.Len())
		}
	}
}

func TestP801Twice(t *testing.T) {
	for many := range 6 {
		for n := range many {
			b := filled(t, many+1, upTo(many)...)
			if !b.Twice(n) { // room for one more
				t.Errorf("Twice(%d) of %d: false", n, many)
			}
			want := append(upTo(many), n)
			hold(t, "behind Twice("+strconv.Itoa(n)+")", b, want...)
			for again := range want { // and none
				if b.Twice(again) {
					t.Errorf("Twice(%d) of %d with no room: true", again, many+1)
				}
			}
			hold(t, "behind Twice with no room", b, want...)
		}
		for _, n := range outside(many) {
			b := filled(t, many+1, upTo(many)...)
			if b.Twice(n) {
				t.Errorf("Twice(%d) of %d: true", n, many)
			}
			hold(t, "behind Twice of none", b, upTo(many)...)
		}
	}
	b := filled(t, 5, 5) // the document's example
	if !b.Twice(0) || b.Len() != 2 {
		t.Errorf("Put, Twice(0), Len: %d", b.Len())
	}
	if !b.Twice(1) || !b.Twice(2) || !b.Twice(0) || b.Twice(0) { // of what is there twice, too
		t.Errorf("Twice of Twice: Len %d", b.Len())
	}
	hold(t, "Twice of Twice", b, 5, 5, 5, 5, 5)
}

// TestP801TwiceOwn: one that is there twice goes at one place, and stays at the other one.
func TestP801TwiceOwn(t *testing.T) {
	for _, gone := range []int{1, 3} {
		for _, drop := range []bool{false, true} {
			b := filled(t, 4, 7, 8, 9)
			b.Twice(1)
			if drop {
				b.Drop(gone)
			} else if p, is := b.Take(gone); !is || p.Seq != 8 {
				t.Errorf("Take(%d): %d, %t", gone, p.Seq, is)
			}
			want := slices.Delete([]int{7, 8, 9, 8}, gone, gone+1)
			hold(t, "one of two went", b, want...)
			if b.Twice(2); b.Len() != 4 {
				t.Errorf("Twice behind it: Len %d", b.Len())
			}
		}
	}
	b := bag.New(2)
	b.Put(whole(3))
	b.Twice(0)
	one, _ := b.Take(0)
	spoil(one)
	other, is := b.Take(0)
	if !is || !reflect.DeepEqual(other, whole(3)) {
		t.Errorf("the other one: %+v", other)
	}
}

func TestP801Len(t *testing.T) {
	b := bag.New(3)
	take := func(n int) func() bool { return func() bool { _, is := b.Take(n); return is } }
	drop := func(n int) func() bool { return func() bool { return b.Drop(n) } }
	twice := func(n int) func() bool { return func() bool { return b.Twice(n) } }
	put := func() bool { return b.Put(plain(1)) }
	for at, c := range []struct {
		do   func() bool
		want bool
		many int
	}{
		{take(0), false, 0}, {drop(0), false, 0}, {twice(0), false, 0},
		{put, true, 1}, {twice(1), false, 1}, {twice(0), true, 2}, {put, true, 3},
		{put, false, 3}, {twice(0), false, 3}, {drop(3), false, 3}, {take(-1), false, 3},
		{take(2), true, 2}, {drop(0), true, 1}, {take(1), false, 1}, {put, true, 2}, {take(0), true, 1}, {take(0), true, 0},
		{take(0), false, 0}, {drop(0), false, 0}, {put, true, 1},
	} {
		if got := c.do(); got != c.want || b.Len() != c.many {
			t.Errorf("call %d: %t, Len %d, not %t, %d", at, got, b.Len(), c.want, c.many)
		}
		for range b.All() {
			break
		}
		if b.On(1, 101); b.Len() != c.many {
			t.Errorf("call %d: Len %d behind being gone through", at, b.Len())
		}
	}
}

func TestP801On(t *testing.T) {
	b := bag.New(20)
	want := map[[2]int]int{}
	for _, on := range [][2]int{{0, 1}, {1, 0}, {0, 1}, {2, 2}, {0, 2}, {0, 1}, {2, 2}, {100, 0}, {0, 100}, {0, 100}, {0, 0}, {-1, 3}, {math.MinInt, math.MaxInt}} {
		// The letter's own ends say nothing of the packet's.
		b.Put(api.Packet{From: on[0], To: on[1], Seq: 3, Letter: api.Letter{From: 1, To: 2}})
		want[on]++
	}
	ends := []int{0, 1, 2, 3, 100, 101, -1, -2, math.MinInt, math.MaxInt}
	all := func(what string) {
		t.Helper()
		for _, from := range ends {
			for _, to := range ends {
				if got := b.On(from, to); got != want[[2]int{from, to}] {
					t.Errorf("%s: On(%d, %d) is %d, not %d", what, from, to, got, want[[2]int{from, to}])
				}
			}
		}
	}
	all("as they were put in")
	b.Twice(0)
	want[[2]int{0, 1}]++
	all("one twice")
	b.Drop(3)
	want[[2]int{2, 2}]--
	all("one dropped")
	b.Take(0)
	want[[2]int{0, 1}]--
	all("one taken")
	empty(b)
	clear(want)
	all("none")
	if got := filled(t, api.MaxBag, slices.Repeat([]int{6}, api.MaxBag)...).On(6, 106); got != api.MaxBag {
		t.Errorf("On of as many as may be: %d", got)
	}
}

// call is one that turns a bag: Take, Drop, Twice of number n, or Put.
type call struct{ kind, n int }

// calls lists all of them for a bag of few.
func calls(most int) []call {
	all := []call{{kind: 3}}
	for kind := range 3 {
		for n := -1; n <= most; n++ {
			all = append(all, call{kind, n})
		}
	}
	return all
}

// do does a call, and tells whether it was done.
func (c call) do(b *bag.Bag, next int) bool {
	switch c.kind {
	case 0:
		_, is := b.Take(c.n)
		return is
	case 1:
		return b.Drop(c.n)
	case 2:
		return b.Twice(c.n)
	}
	return b.Put(plain(next))
}

// slow tells, as the document's words do, whether a call is done, and what there is behind it.
func (c call) slow(had []int, most, next int) ([]int, bool) {
	there := c.n >= 0 && c.n < len(had)
	switch {
	case c.kind < 2 && there:
		return slices.Concat(had[:c.n], had[c.n+1:]), true
	case c.kind == 2 && there && len(had) < most:
		return slices.Concat(had, []int{had[c.n]}), true
	case c.kind == 3 && len(had) < most:
		return slices.Concat(had, []int{next}), true
	}
	return had, false
}

// TestP801Any: bags behind any few calls are as the document's words say.
func TestP801Any(t *testing.T) {
	const most, depth = 3, 4
	var follow func(start int, done []call)
	follow = func(start int, done []call) {
		b, list := filled(t, most, upTo(start)...), upTo(start)
		for at, c := range done {
			var want bool
			list, want = c.slow(list, most, 10+at)
			if got := c.do(b, 10+at); got != want {
				t.Fatalf("calls %v, of %d: the %d-th is %t", done, start, at, got)
			}
		}
		hold(t, "behind some calls", b, list...)
		if len(done) == depth {
			return
		}
		for _, c := range calls(most) {
			follow(start, append(slices.Clone(done), c))
		}
	}
	for start := range most + 1 {
		follow(start, nil)
	}
}

// TestP801None: a nil bag has nothing, and neither has one without room.
func TestP801None(t *testing.T) {
	for at, b := range noRoom() {
		for range 2 { // what is put in does not stay
			for _, n := range append(outside(0), 0, 1) {
				if p, is := b.Take(n); is || !reflect.DeepEqual(p, api.Packet{}) {
					t.Errorf("bag %d: Take(%d): %+v, %t", at, n, p, is)
				}
				if b.Drop(n) || b.Twice(n) {
					t.Errorf("bag %d: Drop(%d) or Twice: true", at, n)
				}
			}
			for range b.All() {
				t.Errorf("bag %d: All tells something", at)
			}
			b.All()(nil)
			for _, p := range []api.Packet{{}, plain(1), whole(2)} {
				if b.Put(p) {
					t.Errorf("bag %d: Put: true", at)
				}
				if b.On(p.From, p.To) != 0 {
					t.Errorf("bag %d: On(%d, %d) is %d", at, p.From, p.To, b.On(p.From, p.To))
				}
			}
			if b.Len() != 0 {
				t.Errorf("bag %d: Len %d", at, b.Len())
			}
		}
	}
}
