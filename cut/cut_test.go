package cut_test

import (
	"cmp"
	"math"
	"slices"
	"strconv"
	"strings"
	"testing"

	"rosary/api"
	"rosary/cut"
	"rosary/key"
	"rosary/shelf"
)

const end = math.MaxUint64 // the last point of the ring

// roomy makes a shelf for so many items of those keys; the value of each tells how manieth it was put in.
func roomy(t *testing.T, most int, keys ...string) *shelf.Shelf {
	t.Helper()
	s := shelf.New(most)
	for i, k := range keys {
		if e := s.Put(k, strconv.Itoa(i)); e != api.OK {
			t.Fatalf("Put(%q): %d", k, e)
		}
	}
	return s
}

// filled makes one that has as much room as there may be.
func filled(t *testing.T, keys ...string) *shelf.Shelf {
	t.Helper()
	return roomy(t, api.MaxItems, keys...)
}

// most lists as many keys as a shelf may have, some of them at one point.
func most() []string {
	var keys []string
	for i := range api.MaxItems {
		if i%5 == 4 {
			keys = append(keys, "at one point"+string(rune('A'+i/5)))
			continue
		}
		keys = append(keys, string([]byte{byte(i * 101), byte(i)}))
	}
	return keys
}

// sets lists keys of shelves: none, one, a few, some at both ends of the ring and several at one point, the most.
func sets() [][]string {
	return [][]string{
		nil, {"m"}, {"\x00"}, {"\xff"}, {"b", "a"}, {"c", "a", "b"}, {"abcdefghB", "abcdefgh", "abcdefghA"},
		{"m", "b", "\xff\xff\xff\xff\xff\xff\xff\xff", "a", "\x00", "abcdefghj", "abcdefgh", "a\x00", "\xff", "\x00\x00", "z"},
		most(),
	}
}

// noRoom lists shelves that may have nothing: none at all, and one that was not made by New.
func noRoom() []*shelf.Shelf {
	return []*shelf.Shelf{nil, {}}
}

// empties lists shelves that have nothing: those, one for no items, one that is empty, and one that is so again.
func empties(t *testing.T) []*shelf.Shelf {
	again := filled(t, "a")
	again.Del("a")
	return append(noRoom(), shelf.New(0), shelf.New(9), again)
}

// points lists where those keys lie, what is just around there, and the ends of the ring, each once.
func points(keys []string) []uint64 {
	all := []uint64{0, 1, end - 1, end, 1 << 63}
	for _, k := range keys[:min(len(keys), 16)] {
		x := key.Addr(k)
		all = append(all, x-1, x, x+1)
	}
	slices.Sort(all)
	return slices.Compact(all)
}

// parted tells which of those items lie in an arc, in its order, and which do not: by the way from its From on, going round.
func parted(items []api.Item, a api.Arc) (in, out []api.Item) {
	far := func(item api.Item) uint64 { return key.Addr(item.Key) - a.From }
	for _, item := range items {
		if a.From == a.To || far(item) < a.To-a.From {
			in = append(in, item)
		} else {
			out = append(out, item)
		}
	}
	slices.SortFunc(in, func(x, y api.Item) int {
		return cmp.Or(cmp.Compare(far(x), far(y)), cmp.Compare(x.Key, y.Key))
	})
	return in, out
}

// between lists those items that a range has.
func between(items []api.Item, from, to string) []api.Item {
	var come []api.Item
	for _, item := range items {
		if !key.Less(item.Key, from) && (to == "" || key.Less(item.Key, to)) {
			come = append(come, item)
		}
	}
	return come
}

// ends lists what ranges may begin and end at: no key, those keys, others right around them, and what is no key.
func ends(keys []string) []string {
	all := []string{"", "\x00", "aa", "zz", "\xff\xff\xff\xff\xff\xff\xff\xff\xff\xff", strings.Repeat("k", api.MaxKey+4)}
	for _, k := range keys[:min(len(keys), 11)] {
		all = append(all, k, key.Past(k))
	}
	return all
}

// keys tells the keys of items, one behind the other.
func keys(items []api.Item) string {
	var all []string
	for _, item := range items {
		all = append(all, item.Key)
	}
	return strings.Join(all, ",")
}

// spelt tells items with their values: a=1,b=2.
func spelt(items []api.Item) string {
	var all []string
	for _, item := range items {
		all = append(all, item.Key+"="+item.Value)
	}
	return strings.Join(all, ",")
}

// list makes items of texts: "b" is one of key b and value v, "b=2" one of the value 2.
func list(texts ...string) []api.Item {
	var items []api.Item
	for _, text := range texts {
		k, v, is := strings.Cut(text, "=")
		if !is {
			v = "v"
		}
		items = append(items, api.Item{Key: k, Value: v})
	}
	return items
}

// numbered makes so many items of keys that differ.
func numbered(n int) []api.Item {
	var items []api.Item
	for i := range n {
		items = append(items, api.Item{Key: "k" + strconv.Itoa(i), Value: strconv.Itoa(i)})
	}
	return items
}

func at(c byte) uint64 { return uint64(c) << 56 }

func TestP601Out(t *testing.T) {
	for _, c := range []struct {
		from, to   uint64
		want, left string
	}{
		{at('b'), at('d'), "b,c", "a,d,e"}, // one lies just where it begins, one just where it ends
		{at('b') + 1, at('d') + 1, "c,d", "a,b,e"},
		{at('b') + 1, at('c'), "", "a,b,c,d,e"}, // of no items
		{at('x'), at('y'), "", "a,b,c,d,e"},
		{end, 0, "", "a,b,c,d,e"},
		{at('d'), at('b'), "d,e,a", "b,c"}, // over the end
		{at('d') + 1, at('b') + 1, "e,a,b", "c,d"},
		{at('f'), at('b'), "a", "b,c,d,e"},
		{at('e'), at('a'), "e", "a,b,c,d"},
		{at('f'), at('a'), "", "a,b,c,d,e"},
		{at('e'), 0, "e", "a,b,c,d"}, // up to the end
		{0, at('c'), "a,b", "c,d,e"},
		{0, 0, "a,b,c,d,e", ""}, // the whole ring
		{at('c'), at('c'), "c,d,e,a,b", ""},
		{at('c') + 1, at('c') + 1, "d,e,a,b,c", ""},
		{end, end, "a,b,c,d,e", ""},
		{at('c'), at('c') + 1, "c", "a,b,d,e"}, // one point
		{at('c') + 1, at('c'), "d,e,a,b", "c"},
	} {
		s := filled(t, "c", "a", "e", "b", "d")
		got := keys(cut.Out(s, api.Arc{From: c.from, To: c.to}))
		if left := keys(s.Items()); got != c.want || left != c.left {
			t.Errorf("Out(%x, %x): %q, %q are left, not %q, %q", c.from, c.to, got, left, c.want, c.left)
		}
	}
	for _, s := range empties(t) {
		for _, a := range []api.Arc{{}, {From: 9, To: 9}, {From: 9, To: 3}, {From: 3, To: 9}} {
			if got := cut.Out(s, a); len(got) != 0 || s.Len() != 0 {
				t.Errorf("Out(%v) of nothing: %q", a, got)
			}
		}
	}
}

// TestP601OutAll: whatever the arc, what lies in it comes, with its values, and the rest is left.
func TestP601OutAll(t *testing.T) {
	for _, set := range sets() {
		whole := filled(t, set...)
		for _, from := range points(set) {
			for _, to := range points(set) {
				s, a := whole.Copy(), api.Arc{From: from, To: to}
				want, left := parted(whole.Items(), a)
				got := cut.Out(s, a)
				if !slices.Equal(got, want) || !slices.Equal(s.Items(), left) || s.Len() != len(left) {
					t.Fatalf("Out(%x, %x) of %d: %q, %q are left, not %q, %q", from, to, len(set), got, s.Items(), want, left)
				}
				if again := cut.Out(s, a); len(again) != 0 || !slices.Equal(s.Items(), left) {
					t.Fatalf("Out(%x, %x) of %d again: %q", from, to, len(set), again)
				}
				if e := cut.In(s, got...); e != api.OK || !slices.Equal(s.Items(), whole.Items()) {
					t.Fatalf("what was Out(%x, %x) of %d put in again: %d, %q", from, to, len(set), e, s.Items())
				}
			}
		}
	}
}

// TestP601OutNew: nobody who writes into what came out changes what comes next, or the shelf.
func TestP601OutNew(t *testing.T) {
	s := filled(t, "a", "b", "c", "d")
	one := cut.Out(s, api.Arc{From: 0, To: at('c')})
	clear(one[:cap(one)])
	if got := keys(s.Items()); got != "c,d" {
		t.Errorf("the shelf has %q", got)
	}
	other := cut.Out(s, api.Arc{})
	clear(one[:cap(one)])
	if got := keys(other); got != "c,d" {
		t.Errorf("Out: %q", got)
	}
}

func TestP601In(t *testing.T) {
	long := strings.Repeat("x", api.MaxKey+1)
	widest := strings.Repeat("x", api.MaxKey) + "=" + strings.Repeat("w", api.MaxValue)
	wide := "=" + strings.Repeat("w", api.MaxValue+1)
	for _, c := range []struct {
		most int
		had  string
		put  []string
		e    api.Errno
		want string
	}{
		{9, "c", nil, api.OK, "c=0"}, // a list of no items
		{9, "", []string{"a"}, api.OK, "a=v"},
		{9, "b", []string{"c=1", "a=2", "d="}, api.OK, "a=2,b=0,c=1,d="},
		{9, "", []string{widest}, api.OK, widest},
		{9, "b", []string{"", "a", "c"}, api.ErrKey, "b=0"}, // the first one may not be
		{9, "b", []string{"a", "", "c"}, api.ErrKey, "b=0"}, // the middle one
		{9, "b", []string{"a", "c", ""}, api.ErrKey, "b=0"}, // the last one
		{9, "b", []string{long, "a", "c"}, api.ErrKey, "b=0"},
		{9, "b", []string{"a", long, "c"}, api.ErrKey, "b=0"},
		{9, "b", []string{"a", "c", long}, api.ErrKey, "b=0"},
		{9, "b", []string{"a" + wide, "b", "c"}, api.ErrValue, "b=0"},
		{9, "b", []string{"a", "b" + wide, "c"}, api.ErrValue, "b=0"},
		{9, "b", []string{"a", "b", "c" + wide}, api.ErrValue, "b=0"},
		{9, "b", []string{"a", wide}, api.ErrKey, "b=0"},             // one with two errors
		{9, "b", []string{"a", "", "c" + wide}, api.ErrKey, "b=0"},   // two with one each
		{9, "b", []string{"a", "c" + wide, ""}, api.ErrValue, "b=0"}, // .. the other way round
		{2, "b", []string{"a", "c", ""}, api.ErrFull, "b=0"},         // .. where there is no room ahead of it
		{2, "b", []string{"a", "", "c"}, api.ErrKey, "b=0"},          // .. or behind it
		{1, "b", []string{"a", "b" + wide}, api.ErrFull, "b=0"},
		{1, "b", []string{"b" + wide, "a"}, api.ErrValue, "b=0"},
		{3, "b", []string{"a", "c"}, api.OK, "a=v,b=0,c=v"},   // just room
		{3, "b", []string{"a", "c", "d"}, api.ErrFull, "b=0"}, // one too many
		{3, "b", []string{"a", "c", "d", "e", "f"}, api.ErrFull, "b=0"},
		{0, "", []string{"a"}, api.ErrFull, ""},
		{0, "", nil, api.OK, ""},
		{9, "b", []string{"a=1", "a=2"}, api.OK, "a=2,b=0"}, // the same key twice: the last one counts
		{9, "b", []string{"b=1", "a=1", "b=2"}, api.OK, "a=1,b=2"},
		{2, "b", []string{"a=1", "a=2", "b=3"}, api.OK, "a=2,b=3"}, // .. and takes no more room
		{2, "b", []string{"a=1", "a=2", "c"}, api.ErrFull, "b=0"},
		{2, "b,c", []string{"c=1", "b=2"}, api.OK, "b=2,c=1"}, // full, and they are there
		{2, "b,c", []string{"c=1", "b=2", "a"}, api.ErrFull, "b=0,c=1"},
		{2, "b,c", []string{"a", "c=1", "b=2"}, api.ErrFull, "b=0,c=1"},
		{2, "b,c", nil, api.OK, "b=0,c=1"},
	} {
		s := roomy(t, c.most, strings.FieldsFunc(c.had, func(r rune) bool { return r == ',' })...)
		e := cut.In(s, list(c.put...)...)
		if got := spelt(s.Items()); e != c.e || got != c.want {
			t.Errorf("In of %q to %q of %d: %d, %q, not %d, %q", c.put, c.had, c.most, e, got, c.e, c.want)
		}
	}
}

// TestP601InNone: a shelf that has no room that was asked for tells of that ahead of all else, as its Put does; no Put, no error.
func TestP601InNone(t *testing.T) {
	for _, s := range noRoom() {
		for _, put := range [][]string{{"a"}, {""}, {"a", ""}, {"a", "b"}} {
			if e := cut.In(s, list(put...)...); e != api.ErrState || s.Len() != 0 {
				t.Errorf("In of %q to no shelf: %d", put, e)
			}
		}
		if e := cut.In(s); e != api.OK {
			t.Errorf("In of nothing to no shelf: %d", e)
		}
	}
}

// lists lists all lists of up to so many of those items.
func lists(items []api.Item, most int) [][]api.Item {
	all := [][]api.Item{nil}
	for from := 0; most > 0; most-- {
		to := len(all)
		for ; from < to; from++ {
			for _, item := range items {
				all = append(all, append(slices.Clone(all[from]), item))
			}
		}
	}
	return all
}

// TestP601InAll holds lists of few items against Puts one behind the other.
func TestP601InAll(t *testing.T) {
	items := list("a=1", "a=2", "b", "c", "", "d="+strings.Repeat("w", api.MaxValue+1))
	for _, had := range [][]string{nil, {"b"}, {"a", "c"}, {"x", "b", "y"}} {
		for room := range 4 {
			s := roomy(t, len(had)+room, had...)
			for _, l := range lists(items, 4) {
				got, want, e := s.Copy(), s.Copy(), api.OK
				for _, item := range l {
					if e == api.OK {
						e = want.Put(item.Key, item.Value)
					}
				}
				if e != api.OK {
					want = s
				}
				if told := cut.In(got, l...); told != e || !slices.Equal(got.Items(), want.Items()) {
					t.Fatalf("In of %q to %q and room for %d: %d, %q, not %d, %q", l, had, room, told, got.Items(), e, want.Items())
				}
			}
		}
	}
}

// TestP601InMany: what goes wrong at the last one of many changes nothing, and nothing that comes later.
func TestP601InMany(t *testing.T) {
	s := filled(t, "a", "b")
	most := numbered(api.MaxItems)
	for _, l := range [][]api.Item{most[:api.MaxItems-1], append(slices.Clone(most[:100]), api.Item{}), append(list("a=x", "b=y"), most...)} {
		items, depth := s.Items(), s.Depth()
		if e := cut.In(s, l...); e == api.OK {
			t.Errorf("In of %d: no error", len(l))
		}
		if !slices.Equal(s.Items(), items) || s.Len() != 2 || s.Depth() != depth {
			t.Errorf("behind an error: %q, %d, %d", s.Items(), s.Len(), s.Depth())
		}
		if v, is := s.Get("k0"); v != "" || is {
			t.Errorf("behind an error: k0 has %q", v)
		}
	}
	if e := cut.In(s, most[:api.MaxItems-2]...); e != api.OK || s.Len() != api.MaxItems {
		t.Errorf("In of as many as there is room for: %d, %d", e, s.Len())
	}
	if e := cut.In(s, most[:api.MaxItems-1]...); e != api.ErrFull || s.Len() != api.MaxItems {
		t.Errorf("In of one more: %d, %d", e, s.Len())
	}
}

// TestP601InLong: a list may be longer than a shelf has room, if its keys are there already; a wrong one ahead of all counts first.
func TestP601InLong(t *testing.T) {
	s, l := roomy(t, 2, "a", "b"), slices.Repeat(list("a=1", "b=1", "b=2", "a=2"), api.MaxItems)
	if e := cut.In(s, l...); e != api.OK || spelt(s.Items()) != "a=2,b=2" {
		t.Errorf("In of two keys many times: %d, %q", e, s.Items())
	}
	l = append(list(""), numbered(2*api.MaxItems)...)
	if e := cut.In(s, l...); e != api.ErrKey || spelt(s.Items()) != "a=2,b=2" {
		t.Errorf("In of a wrong key and too many others: %d, %q", e, s.Items())
	}
}

// TestP601InKeeps: what was handed in stays, and is not kept.
func TestP601InKeeps(t *testing.T) {
	for _, most := range []int{9, 1} {
		s, l := shelf.New(most), list("b=1", "a=2", "b=3")
		was := slices.Clone(l)
		cut.In(s, l...)
		if !slices.Equal(l, was) {
			t.Errorf("handed in: %q, not %q", l, was)
		}
		items := s.Items()
		clear(l)
		if !slices.Equal(s.Items(), items) {
			t.Errorf("the shelf has %q, not %q", s.Items(), items)
		}
	}
}

func TestP601Chunks(t *testing.T) {
	for _, c := range []struct {
		n    int
		want string
	}{
		{0, ""}, // none of none
		{1, "k0"},
		{api.Chunk - 1, "k0,k1,k2"},
		{api.Chunk, "k0,k1,k2,k3"},
		{api.Chunk + 1, "k0,k1,k2,k3 k4"},
		{2*api.Chunk - 1, "k0,k1,k2,k3 k4,k5,k6"},
		{2 * api.Chunk, "k0,k1,k2,k3 k4,k5,k6,k7"},
		{2*api.Chunk + 1, "k0,k1,k2,k3 k4,k5,k6,k7 k8"},
	} {
		var got []string
		for _, chunk := range cut.Chunks(numbered(c.n)...) {
			got = append(got, keys(chunk))
		}
		if strings.Join(got, " ") != c.want {
			t.Errorf("Chunks of %d: %q, not %q", c.n, got, c.want)
		}
	}
	if got := cut.Chunks([]api.Item{}...); len(got) != 0 {
		t.Errorf("Chunks of none: %q", got)
	}
	twice := list("b", "", "a", "b", "b", "b")
	if got := cut.Chunks(twice...); !slices.Equal(slices.Concat(got...), twice) {
		t.Errorf("Chunks of what no shelf has: %q", got)
	}
	for n := range 2*api.MaxItems + 3 {
		l := numbered(n)
		chunks := cut.Chunks(l...)
		if many := (n + api.Chunk - 1) / api.Chunk; len(chunks) != many {
			t.Fatalf("Chunks of %d: %d", n, len(chunks))
		}
		for i, chunk := range chunks {
			if want := l[i*api.Chunk : min((i+1)*api.Chunk, n)]; !slices.Equal(chunk, want) {
				t.Fatalf("Chunks of %d: %q at %d, not %q", n, chunk, i, want)
			}
		}
	}
}

// TestP601ChunksNew: what was handed in stays, and no two chunks share memory, nor with it.
func TestP601ChunksNew(t *testing.T) {
	l := numbered(3*api.Chunk + 1)
	was := slices.Clone(l)
	one, other := cut.Chunks(l...), cut.Chunks(l...)
	for i, chunk := range one {
		clear(chunk[:cap(chunk)])
		if rest := slices.Concat(one[i+1:]...); !slices.Equal(rest, was[min((i+1)*api.Chunk, len(was)):]) {
			t.Errorf("behind chunk %d: %q", i, rest)
		}
	}
	if !slices.Equal(l, was) {
		t.Errorf("handed in: %q", l)
	}
	clear(one[:cap(one)])
	if !slices.Equal(slices.Concat(other...), was) {
		t.Errorf("another answer: %q", other)
	}
	clear(l)
	if !slices.Equal(slices.Concat(other...), was) {
		t.Errorf("when what was handed in is written: %q", other)
	}
}

func TestP601Page(t *testing.T) {
	s := filled(t, "c", "a", "e", "b", "d")
	for _, c := range []struct {
		from, to string
		most     int
		want     string
		more     bool
		next     string
	}{
		{"", "c\x00", 2, "a,b", true, "c"}, // the document's
		{"", "", 0, "", true, "a"},
		{"", "", -1, "", true, "a"},
		{"", "", math.MinInt, "", true, "a"},
		{"c", "", 0, "", true, "c"},
		{"bb", "", -1, "", true, "c"},
		{"", "", 1, "a", true, "b"},
		{"", "", 4, "a,b,c,d", true, "e"},   // fewer than there are
		{"", "", 5, "a,b,c,d,e", false, ""}, // just as many
		{"", "", 6, "a,b,c,d,e", false, ""}, // more
		{"", "", math.MaxInt, "a,b,c,d,e", false, ""},
		{"b", "e", 2, "b,c", true, "d"},
		{"b", "e", 3, "b,c,d", false, ""}, // e is there, but not in the range
		{"b", "e", 4, "b,c,d", false, ""},
		{"b", "d", 2, "b,c", false, ""},
		{"bb", "dd", 1, "c", true, "d"},
		{"d", "", 1, "d", true, "e"}, // up to the end
		{"d", "", 2, "d,e", false, ""},
		{"e\x00", "", 2, "", false, ""},
		{"d", "b", 2, "", false, ""}, // from behind its own end
		{"d", "b", 0, "", false, ""},
		{"d", "b", -1, "", false, ""},
		{"d", "d", 0, "", false, ""},
		{"bb", "c", 0, "", false, ""}, // none in it
		{"x", "", 0, "", false, ""},
		{"x", "", 3, "", false, ""},
	} {
		items, more, next := cut.Page(s, c.from, c.to, c.most)
		if got := keys(items); got != c.want || more != c.more || next != c.next {
			t.Errorf("Page(%q, %q, %d): %q, %t, %q, not %q, %t, %q", c.from, c.to, c.most, got, more, next, c.want, c.more, c.next)
		}
	}
	for _, s := range empties(t) {
		for _, most := range []int{math.MinInt, -1, 0, 1, 5, math.MaxInt} {
			for _, r := range [][2]string{{"", ""}, {"a", "b"}, {"b", "a"}, {"", "b"}, {"a", ""}} {
				if items, more, next := cut.Page(s, r[0], r[1], most); len(items) != 0 || more || next != "" {
					t.Errorf("Page(%q, %q, %d) of nothing: %q, %t, %q", r[0], r[1], most, items, more, next)
				}
			}
		}
	}
}

// TestP601PageAll: whatever the range, a page has its first ones, and tells what is behind them.
func TestP601PageAll(t *testing.T) {
	for _, set := range sets() {
		s := filled(t, set...)
		items := s.Items()
		for _, from := range ends(set) {
			for _, to := range ends(set) {
				whole := between(items, from, to)
				n := len(whole)
				for _, most := range []int{-1, 0, 1, 2, n / 2, n - 1, n, n + 1, math.MaxInt} {
					first := min(max(most, 0), n)
					want := ""
					if first < n {
						want = whole[first].Key
					}
					page, more, next := cut.Page(s, from, to, most)
					if !slices.Equal(page, whole[:first]) || more != (first < n) || next != want {
						t.Fatalf("Page(%q, %q, %d) of %d: %q, %t, %q", from, to, most, len(set), page, more, next)
					}
				}
			}
		}
		if !slices.Equal(s.Items(), items) {
			t.Errorf("the shelf has %q, not %q", s.Items(), items)
		}
	}
}

// TestP601PageNext: pages one behind the other, each from the next key of the one ahead of it, have a whole range, each item once.
func TestP601PageNext(t *testing.T) {
	for _, set := range sets() {
		s := filled(t, set...)
		for _, r := range [][2]string{{"", ""}, {"b", ""}, {"", "m"}, {"a\x00", "z"}, {"z", "a"}} {
			want := between(s.Items(), r[0], r[1])
			for _, most := range []int{1, 2, 3, api.Chunk, len(set) + 1} {
				var got []api.Item
				pages, from := 0, r[0]
				for more := true; more && pages <= len(set); pages++ {
					var page []api.Item
					page, more, from = cut.Page(s, from, r[1], most)
					got = append(got, page...)
				}
				if many := max(1, (len(want)+most-1)/most); !slices.Equal(got, want) || pages != many {
					t.Errorf("pages of %d of %q to %q: %q in %d, not %q in %d", most, r[0], r[1], got, pages, want, many)
				}
			}
		}
	}
}

// TestP601PageNew: nobody who writes into a page changes another one, or the shelf.
func TestP601PageNew(t *testing.T) {
	s := filled(t, "a", "b", "c")
	one, _, _ := cut.Page(s, "", "", 2)
	other, _, _ := cut.Page(s, "", "", 2)
	clear(one[:cap(one)])
	again, _, _ := cut.Page(s, "", "", 2)
	if keys(other) != "a,b" || keys(again) != "a,b" || keys(s.Items()) != "a,b,c" {
		t.Errorf("%q, %q, %q", other, again, s.Items())
	}
}
