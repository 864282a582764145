package walk_test

import (
	"cmp"
	"math"
	"slices"
	"strconv"
	"strings"
	"testing"

	"rosary/api"
	"rosary/key"
	"rosary/shelf"
	"rosary/walk"
)

const end = math.MaxUint64 // the last point of the ring

// way is what goes through items.
type way = func(yield func(string, string) bool)

// filled makes a shelf of those keys; the value of each tells how manieth it was put in.
func filled(t *testing.T, keys ...string) *shelf.Shelf {
	t.Helper()
	s := shelf.New(api.MaxItems)
	for i, k := range keys {
		if e := s.Put(k, strconv.Itoa(i)); e != api.OK {
			t.Fatalf("Put(%q): %d", k, e)
		}
	}
	return s
}

// most lists as many keys as a shelf may have, some of them at one point.
func most() []string {
	var keys []string
	for i := range api.MaxItems {
		if i%5 == 4 {
			keys = append(keys, "at one point"+string(rune('A'+i/5)))
			continue
		}
		keys = append(keys, string([]byte{byte(i * 101), byte(i)}))
	}
	return keys
}

// mixed lists keys at both ends of the ring, several at one point, and beginnings of others.
func mixed() []string {
	return []string{
		"m", "b", "\xff\xff\xff\xff\xff\xff\xff\xff", "a", "\x00", "abcdefghj", "abcdefgh", "abcdefghi", "a\x00", "\x00\x00",
		"ab", "\xff", "c", "\xff\xff\xff\xff\xff\xff\xff\xff\xff", "\x00\x00\x00\x00\x00\x00\x00\x01", "abcdefgi", "z",
	}
}

// sets lists keys of shelves: none, one, a few, many, the most.
func sets() [][]string {
	return [][]string{
		nil, {"m"}, {"\x00"}, {"\xff"}, {"b", "a"}, {"c", "a", "b"}, {"abcdefghB", "abcdefgh", "abcdefghA"},
		{"d", "ax", "a", "e", "b", "c"}, mixed(), most(),
	}
}

// empties lists shelves that have nothing: none at all, one that was not made, one without room, one that is empty, and one that is so again.
func empties(t *testing.T) []*shelf.Shelf {
	again := filled(t, "a")
	again.Del("a")
	return []*shelf.Shelf{nil, {}, shelf.New(0), shelf.New(9), again}
}

// points lists where those keys lie, what is just around there, and the ends of the ring, each once.
func points(keys []string) []uint64 {
	all := []uint64{0, 1, end - 1, end, 1 << 63}
	for _, k := range keys[:min(len(keys), 20)] {
		x := key.Addr(k)
		all = append(all, x-1, x, x+1)
	}
	slices.Sort(all)
	return slices.Compact(all)
}

// along lists the items of an arc as P501 says it: from its From on, going round, ahead of its To.
func along(s *shelf.Shelf, a api.Arc) []api.Item {
	far := func(item api.Item) uint64 { return key.Addr(item.Key) - a.From }
	var come []api.Item
	for _, item := range s.Items() {
		if a.From == a.To || far(item) < a.To-a.From {
			come = append(come, item)
		}
	}
	slices.SortFunc(come, func(x, y api.Item) int {
		return cmp.Or(cmp.Compare(far(x), far(y)), cmp.Compare(x.Key, y.Key))
	})
	return come
}

// between lists the items of a range as P501 says it.
func between(s *shelf.Shelf, from, to string) []api.Item {
	var come []api.Item
	for _, item := range s.Items() {
		if !key.Less(item.Key, from) && (to == "" || key.Less(item.Key, to)) {
			come = append(come, item)
		}
	}
	return come
}

// ranges lists pairs of ends of ranges: the keys themselves, others right around them, and no ends.
func ranges(keys []string) [][2]string {
	ends := []string{"", "\x00", "aa", "zz", "\xff\xff\xff\xff\xff\xff\xff\xff\xff\xff", strings.Repeat("k", api.MaxKey+4)}
	for _, k := range keys[:min(len(keys), 12)] {
		ends = append(ends, k, key.Past(k), k[:len(k)-1])
	}
	var all [][2]string
	for _, from := range ends {
		for _, to := range ends {
			all = append(all, [2]string{from, to})
		}
	}
	return all
}

// told goes through a way, and stops behind so many items.
func told(seq way, most int) []api.Item {
	var come []api.Item
	for k, v := range seq {
		come = append(come, api.Item{Key: k, Value: v})
		if len(come) == most {
			break
		}
	}
	return come
}

// ends holds a way against what it should tell: whole, ended at each of its items, and whole again behind each end.
func ends(t *testing.T, what string, seq way, want []api.Item) {
	t.Helper()
	if got := told(seq, -1); !slices.Equal(got, want) {
		t.Fatalf("%s: %q, not %q", what, got, want)
	}
	for _, stop := range []int{1, 2, (len(want) + 1) / 2, len(want) - 1, len(want), len(want) + 1} {
		if stop < 1 {
			continue
		}
		var come []api.Item
		seq(func(k, v string) bool { // not by a loop: it would end a way that goes on
			come = append(come, api.Item{Key: k, Value: v})
			return len(come) < stop
		})
		if left := want[:min(stop, len(want))]; !slices.Equal(come, left) {
			t.Fatalf("%s, ended at its item %d: %q, not %q", what, stop, come, left)
		}
		if got := told(seq, -1); !slices.Equal(got, want) {
			t.Fatalf("%s, gone again: %q, not %q", what, got, want)
		}
	}
}

func name(call string, ends ...any) string {
	for _, e := range ends {
		switch x := e.(type) {
		case string:
			call += " " + strconv.Quote(x)
		case uint64:
			call += " " + strconv.FormatUint(x, 16)
		}
	}
	return call
}

func keys(items []api.Item) string {
	var all []string
	for _, item := range items {
		all = append(all, item.Key)
	}
	return strings.Join(all, ",")
}

func at(c byte) uint64 { return uint64(c) << 56 }

func TestP501All(t *testing.T) {
	for _, set := range sets() {
		s := filled(t, set...)
		ends(t, name("All of", strconv.Itoa(len(set))), walk.All(s), s.Items())
	}
	if got := keys(told(walk.All(filled(t, "b", "a", "ab", "a\x00")), -1)); got != "a,a\x00,ab,b" {
		t.Errorf("All: %q", got)
	}
	for _, s := range empties(t) {
		ends(t, "All of nothing", walk.All(s), nil)
	}
}

func TestP501Range(t *testing.T) {
	s := filled(t, "c", "a", "e", "b", "d")
	for _, c := range []struct{ from, to, want string }{
		{"", "", "a,b,c,d,e"},
		{"", "c", "a,b"},
		{"", "a", ""},
		{"", "a\x00", "a"},
		{"b", "", "b,c,d,e"},
		{"b\x00", "", "c,d,e"}, // from one that is not there
		{"b", "d", "b,c"},      // its end is not in it
		{"bb", "dd", "c,d"},
		{"bb", "c", ""},
		{"b", "b", ""},
		{"b", "b\x00", "b"},
		{"d", "b", ""}, // from behind its own end
		{"e", "", "e"},
		{"e\x00", "", ""},
		{"z", "a", ""},
		{"\x00", "\xff", "a,b,c,d,e"},
		{strings.Repeat("c", api.MaxKey+1), strings.Repeat("d", api.MaxKey+1), "d"}, // an end need not be a key
	} {
		if got := keys(told(walk.Range(s, c.from, c.to), -1)); got != c.want {
			t.Errorf("Range(%q, %q): %q, not %q", c.from, c.to, got, c.want)
		}
	}
	for _, set := range sets() {
		s := filled(t, set...)
		for _, r := range ranges(set) {
			ends(t, name("Range", r[0], r[1]), walk.Range(s, r[0], r[1]), between(s, r[0], r[1]))
		}
	}
	for _, s := range empties(t) {
		for _, r := range ranges([]string{"a", "m"}) {
			ends(t, "Range of nothing", walk.Range(s, r[0], r[1]), nil)
		}
	}
}

func TestP501Arc(t *testing.T) {
	s := filled(t, "c", "a", "e", "b", "d")
	for _, c := range []struct {
		from, to uint64
		want     string
	}{
		{at('b'), at('d'), "b,c"}, // begins and ends just where an item lies
		{at('b') + 1, at('d') + 1, "c,d"},
		{at('b') + 1, at('c'), ""},
		{at('d'), at('b'), "d,e,a"}, // over the end
		{at('d') + 1, at('b') + 1, "e,a,b"},
		{at('f'), at('b'), "a"},
		{at('e'), at('a'), "e"},
		{at('f'), at('a'), ""},
		{at('e'), 0, "e"}, // up to the end
		{0, at('c'), "a,b"},
		{0, 0, "a,b,c,d,e"}, // the whole ring
		{at('c'), at('c'), "c,d,e,a,b"},
		{at('c') + 1, at('c') + 1, "d,e,a,b,c"},
		{end, end, "a,b,c,d,e"},
		{at('c'), at('c') + 1, "c"}, // one point
		{at('c') + 1, at('c'), "d,e,a,b"},
		{at('x'), at('y'), ""},
		{end, 0, ""},
		{end, at('b'), "a"},
	} {
		if got := keys(told(walk.Arc(s, api.Arc{From: c.from, To: c.to}), -1)); got != c.want {
			t.Errorf("Arc(%x, %x): %q, not %q", c.from, c.to, got, c.want)
		}
	}
	for _, set := range sets() {
		s := filled(t, set...)
		for _, from := range points(set) {
			for _, to := range points(set) {
				a := api.Arc{From: from, To: to}
				ends(t, name("Arc", from, to), walk.Arc(s, a), along(s, a))
			}
		}
	}
	for _, s := range empties(t) {
		for _, a := range []api.Arc{{}, {From: 9, To: 9}, {From: 9, To: 3}, {From: 3, To: 9}, {From: 3}} {
			ends(t, "Arc of nothing", walk.Arc(s, a), nil)
		}
	}
}

// TestP501OnePoint: several items at one point are in an arc together, or none is.
func TestP501OnePoint(t *testing.T) {
	s := filled(t, "abcdefghi", "b", "abcdefgh", "abcdefghj")
	x := key.Addr("abcdefgh")
	for _, c := range []struct {
		from, to uint64
		want     string
	}{
		{x, x + 1, "abcdefgh,abcdefghi,abcdefghj"},
		{0, x, ""},
		{0, x + 1, "abcdefgh,abcdefghi,abcdefghj"},
		{x + 1, 0, "b"},
		{x, x, "abcdefgh,abcdefghi,abcdefghj,b"},
		{x + 1, x + 1, "b,abcdefgh,abcdefghi,abcdefghj"},
		{x + 1, x, "b"},
	} {
		if got := keys(told(walk.Arc(s, api.Arc{From: c.from, To: c.to}), -1)); got != c.want {
			t.Errorf("Arc(%x, %x): %q, not %q", c.from, c.to, got, c.want)
		}
	}
}

// ways lists all kinds of ways through a shelf; those of arcs go over the end too.
func ways(s *shelf.Shelf) map[string]way {
	return map[string]way{
		"All":                        walk.All(s),
		"Range":                      walk.Range(s, "b", "y"),
		"Range to nothing":           walk.Range(s, "b", ""),
		"Arc":                        walk.Arc(s, api.Arc{From: at('b'), To: at('y')}),
		"Arc over the end":           walk.Arc(s, api.Arc{From: at('m'), To: at('k')}),
		"Arc, all":                   walk.Arc(s, api.Arc{}),
		"Arc, all, from a point on":  walk.Arc(s, api.Arc{From: at('m'), To: at('m')}),
		"Arc, all, from the last on": walk.Arc(s, api.Arc{From: end, To: end}),
	}
}

func TestP501Within(t *testing.T) {
	s := filled(t, "d", "a", "x", "c", "n", "m", "z")
	for outer, seq := range ways(s) {
		want := told(seq, -1)
		for inner, other := range ways(s) {
			least := told(other, -1)
			var come []api.Item
			for k, v := range seq {
				come = append(come, api.Item{Key: k, Value: v})
				if got := told(other, -1); !slices.Equal(got, least) {
					t.Fatalf("%s within %s: %q, not %q", inner, outer, got, least)
				}
				told(other, 1) // one that is ended ends no other one
				told(seq, 2)   // and so does the same one
			}
			if !slices.Equal(come, want) {
				t.Fatalf("%s around %s: %q, not %q", outer, inner, come, want)
			}
		}
	}
	var pairs []string
outer:
	for k := range walk.All(s) {
		for other := range walk.Arc(s, api.Arc{From: at('x'), To: at('x')}) {
			switch other {
			case "z":
				continue
			case k:
				continue outer
			case "m":
				break outer
			}
			pairs = append(pairs, k+other)
		}
	}
	if got := strings.Join(pairs, ","); got != "ax,cx,ca,dx,da,dc,mx,ma,mc,md,nx,na,nc,nd" {
		t.Errorf("one loop that ends another one: %s", got)
	}
}

// TestP501While: a way goes over the items as they were when it began, and not when it was made.
func TestP501While(t *testing.T) {
	had := []string{"d", "a", "x", "c", "n", "m", "z"}
	for kind := range ways(nil) {
		for when := range len(had) { // the items are changed at one of all its steps
			s := filled(t, had...)
			seq := ways(s)[kind]
			s.Put("p", "made before it")
			s.Del("n")
			want := told(ways(s)[kind], -1)
			var come []api.Item
			for k, v := range seq {
				if len(come) == when {
					for _, more := range []string{"\x00", "b", "e", "l", "o", "y", "zz"} {
						s.Put(more, "new")
					}
					for _, gone := range had {
						s.Del(gone)
					}
					s.Put("m", "new")
					s.Put("x", "new")
				}
				come = append(come, api.Item{Key: k, Value: v})
			}
			if !slices.Equal(come, want) {
				t.Errorf("%s, changed at %d: %q, not %q", kind, when, come, want)
			}
			if got, now := told(seq, -1), told(ways(s)[kind], -1); !slices.Equal(got, now) || when < len(want) && slices.Equal(now, want) {
				t.Errorf("%s, gone again behind a change: %q, not %q", kind, got, now)
			}
		}
	}
	s := filled(t, "a", "b", "c")
	for k := range walk.All(s) { // what goes through it takes it away
		s.Del(k)
	}
	if s.Len() != 0 {
		t.Errorf("taken away while it was gone through: %q left", s.Items())
	}
}

// TestP501Leaves: nothing of the shelf is changed by going through it.
func TestP501Leaves(t *testing.T) {
	for _, set := range sets() {
		s := filled(t, set...)
		want := s.Items()
		for _, seq := range ways(s) {
			told(seq, -1)
			clear(walk.Collect(seq, api.MaxItems))
		}
		for _, x := range points(set) {
			walk.Middle(s, api.Arc{From: x, To: x})
		}
		if got := s.Items(); !slices.Equal(got, want) {
			t.Errorf("gone through: %q, not %q", got, want)
		}
	}
}

// TestP501NilYield: nobody to tell it to is no way to panic.
func TestP501NilYield(t *testing.T) {
	for _, s := range append(empties(t), filled(t, "a", "m", "z")) {
		for _, seq := range ways(s) {
			seq(nil)
		}
	}
}

func TestP501Collect(t *testing.T) {
	for _, set := range sets() {
		s := filled(t, set...)
		for _, seq := range ways(s) {
			whole := told(seq, -1)
			n := len(whole)
			for _, most := range []int{math.MinInt, -1, 0, 1, 2, n / 2, n - 1, n, n + 1, 2*n + 1, math.MaxInt} {
				want := whole[:min(max(most, 0), n)]
				for range 2 {
					if got := walk.Collect(seq, most); !slices.Equal(got, want) {
						t.Fatalf("Collect(%d) of %d: %q, not %q", most, n, got, want)
					}
				}
			}
		}
	}
	for _, most := range []int{math.MinInt, -1, 0, 1, 5, math.MaxInt} {
		if got := walk.Collect(nil, most); len(got) != 0 {
			t.Errorf("Collect(nil, %d): %q", most, got)
		}
		if got := walk.Collect(func(func(string, string) bool) {}, most); len(got) != 0 {
			t.Errorf("Collect of a way of no items, %d: %q", most, got)
		}
	}
	list := walk.Collect(walk.All(filled(t, "b", "a")), 9)
	if want := []api.Item{{Key: "a", Value: "1"}, {Key: "b", Value: "0"}}; !slices.Equal(list, want) {
		t.Errorf("Collect: %q, not %q", list, want)
	}
}

// numbers tells numbers for ever, until it is told to end, and counts how many it told.
func numbers(count *int) way {
	return func(yield func(string, string) bool) {
		for {
			*count++
			if !yield(strconv.Itoa(*count), "v") {
				return
			}
		}
	}
}

// TestP501CollectEnds: no more is asked for than is told.
func TestP501CollectEnds(t *testing.T) {
	for _, most := range []int{-1, 0, 1, 2, 3, 100} {
		count := 0
		list := walk.Collect(numbers(&count), most)
		if len(list) != max(most, 0) || count != max(most, 0) {
			t.Errorf("Collect of one without an end, %d: %d items, %d asked for", most, len(list), count)
		}
	}
}

// TestP501CollectWrong: a way that goes on when it was told to end, or panics, is no way to panic.
func TestP501CollectWrong(t *testing.T) {
	letters := func(yield func(string, string) bool) {
		for c := byte('a'); c <= 'd'; c++ {
			yield(string(c), "")
		}
	}
	without := func(yield func(string, string) bool) {
		for {
			yield("a", "")
		}
	}
	broken := func(yield func(string, string) bool) {
		_ = yield("a", "") && yield("b", "")
		panic("broken")
	}
	for _, c := range []struct {
		what string
		seq  way
		most int
		want string
	}{
		{"one that goes on", letters, 0, ""},
		{"one that goes on", letters, 1, "a"},
		{"one that goes on", letters, 3, "a,b,c"},
		{"one that goes on", letters, 4, "a,b,c,d"},
		{"one that goes on", letters, 9, "a,b,c,d"},
		{"one that goes on for ever", without, 2, "a,a"},
		{"one that panics", broken, 0, ""},
		{"one that panics", broken, 1, "a"},
		{"one that panics", broken, 2, "a,b"},
		{"one that panics", broken, 9, "a,b"},
	} {
		if got := keys(walk.Collect(c.seq, c.most)); got != c.want {
			t.Errorf("Collect of %s, %d: %q, not %q", c.what, c.most, got, c.want)
		}
	}
}

// TestP501CollectNew: nobody who writes into an answer changes another one.
func TestP501CollectNew(t *testing.T) {
	seq := walk.All(filled(t, "a", "b", "c"))
	one, other := walk.Collect(seq, 9), walk.Collect(seq, 9)
	clear(one[:cap(one)])
	if keys(other) != "a,b,c" || keys(walk.Collect(seq, 9)) != "a,b,c" {
		t.Error("two lists share memory")
	}
}

func TestP502Rank(t *testing.T) {
	s := filled(t, "c", "a", "abcdefghi", "e", "abcdefgh")
	for _, c := range []struct {
		key  string
		want int
	}{
		{"", 0}, {"\x00", 0}, {"Z", 0}, {"a", 0}, // ahead of all, and the first one
		{"a\x00", 1}, {"abcdefgh", 1}, {"abcdefgh\x00", 2}, {"abcdefghi", 2}, {"abcdefghj", 3},
		{"b", 3}, {"c", 3}, {"c\x00", 4}, {"d", 4}, {"e", 4},
		{"e\x00", 5}, {"f", 5}, {"\xff", 5}, {strings.Repeat("\xff", api.MaxKey+1), 5}, // behind all
	} {
		if got := walk.Rank(s, c.key); got != c.want {
			t.Errorf("Rank(%q): %d, not %d", c.key, got, c.want)
		}
	}
	for _, set := range sets() {
		s := filled(t, set...)
		for place, item := range s.Items() {
			if got := walk.Rank(s, item.Key); got != place {
				t.Errorf("Rank(%q) of %d: %d, not %d", item.Key, len(set), got, place)
			}
			if got := walk.Rank(s, key.Past(item.Key)); got != place+1 {
				t.Errorf("Rank right behind %q of %d: %d, not %d", item.Key, len(set), got, place+1)
			}
		}
	}
	for _, s := range empties(t) {
		for _, k := range []string{"", "a", "\xff"} {
			if got := walk.Rank(s, k); got != 0 {
				t.Errorf("Rank(%q) of nothing: %d", k, got)
			}
		}
	}
}

func TestP502At(t *testing.T) {
	none := func(s *shelf.Shelf, n int) {
		t.Helper()
		if item, is := walk.At(s, n); item != (api.Item{}) || is {
			t.Errorf("At(%d) of %d: %q, %t", n, s.Len(), item, is)
		}
	}
	for _, set := range sets() {
		s := filled(t, set...)
		for place, want := range s.Items() {
			if item, is := walk.At(s, place); item != want || !is {
				t.Errorf("At(%d) of %d: %q, %t, not %q", place, len(set), item, is, want)
			}
		}
		for _, n := range []int{len(set), len(set) + 1, math.MaxInt, -1, -len(set), -len(set) - 1, math.MinInt} {
			if n < 0 || n >= len(set) {
				none(s, n)
			}
		}
	}
	for _, s := range empties(t) {
		for _, n := range []int{math.MinInt, -1, 0, 1, math.MaxInt} {
			none(s, n)
		}
	}
}

func TestP502Count(t *testing.T) {
	s := filled(t, "c", "a", "abcdefghi", "e", "abcdefgh")
	for _, c := range []struct {
		from, to uint64
		want     int
	}{
		{0, 0, 5}, {end, end, 5}, {at('c'), at('c'), 5},
		{at('a'), at('c'), 3}, {at('a'), at('c') + 1, 4}, {at('a') + 1, at('c'), 2},
		{at('c'), at('a'), 2}, {at('c'), at('a') + 1, 3}, {at('c') + 1, at('c'), 4}, {at('e'), 0, 1},
		{key.Addr("abcdefgh"), key.Addr("abcdefgh") + 1, 2}, // two at one point
		{at('x'), at('y'), 0}, {at('x'), at('a'), 0}, {end, 0, 0},
	} {
		if got := walk.Count(s, api.Arc{From: c.from, To: c.to}); got != c.want {
			t.Errorf("Count(%x, %x): %d, not %d", c.from, c.to, got, c.want)
		}
	}
	for _, set := range sets() {
		s := filled(t, set...)
		for _, from := range points(set) {
			for _, to := range points(set) {
				a := api.Arc{From: from, To: to}
				if got, want := walk.Count(s, a), len(along(s, a)); got != want {
					t.Errorf("Count(%x, %x) of %d: %d, not %d", from, to, len(set), got, want)
				}
			}
		}
	}
	for _, s := range empties(t) {
		for _, a := range []api.Arc{{}, {From: 3, To: 3}, {From: 9, To: 3}} {
			if got := walk.Count(s, a); got != 0 {
				t.Errorf("Count(%v) of nothing: %d", a, got)
			}
		}
	}
}

// middle works out where an arc may be cut as P502 says it, word for word.
func middle(items []api.Item) (uint64, bool) {
	half := (len(items) + 1) / 2
	var lower []uint64
	for _, item := range items[:half] {
		lower = append(lower, key.Addr(item.Key))
	}
	for _, item := range items[half:] {
		if x := key.Addr(item.Key); !slices.Contains(lower, x) {
			return x, true
		}
	}
	return 0, false
}

func TestP502Middle(t *testing.T) {
	abc := []string{"b", "a", "c"}
	six := []string{"a", "ax", "b", "c", "d", "e"}
	low := []string{"abcdefgh", "abcdefghi", "abcdefghj", "b"}
	high := []string{"a", "abcdefgh", "abcdefghi", "abcdefghj"}
	between := []string{"a", "abcdefgh", "abcdefghi", "b", "c"}
	x := key.Addr("abcdefgh")
	for _, c := range []struct {
		keys     []string
		from, to uint64
		want     uint64
		is       bool
	}{
		{abc, 0, 0, at('c'), true}, // the document's
		{abc, at('b'), at('b'), at('a'), true},
		{abc, at('c'), at('c'), at('b'), true},
		{abc, at('a') + 1, at('a') + 1, at('a'), true},
		{abc, at('c'), at('b'), at('a'), true}, // two, over the end
		{abc, at('a'), at('c'), at('b'), true}, // two
		{abc, at('a') + 1, 0, at('c'), true},
		{abc, at('b'), at('c'), 0, false}, // one
		{abc, at('x'), at('y'), 0, false}, // none
		{abc, at('x'), at('a'), 0, false},
		{six, 0, 0, at('c'), true}, // half of an even many
		{six, 0, at('e'), at('c'), true},
		{six, at('d'), at('d'), key.Addr("ax"), true},
		{six, at('d'), at('b'), at('a'), true},
		{low, 0, 0, at('b'), true}, // the others begin at the point of the lower ones
		{low, 0, at('b'), 0, false},
		{low, x, x + 1, 0, false},         // all at one point
		{low, at('b'), at('b'), 0, false}, // one of the lower ones lies where all others do
		{low, x + 1, x + 1, 0, false},
		{high, 0, 0, 0, false},
		{high, x, x, at('a'), true},
		{between, 0, 0, at('b'), true},
		{between, 0, at('b'), 0, false},
		{between, x, x, at('c'), true},
		{between, at('b'), at('b'), x, true},
		{[]string{"\x00", "\xff"}, end, end, at('\xff'), true}, // the answer lies where no other could
		{[]string{"\x00", "\xff"}, at('\xff'), at('\xff'), 0, true},
		{[]string{"\x00", "\xff"}, 0, 0, at('\xff'), true},
		{[]string{"\x00", "\x00\x00"}, 0, 0, 0, false}, // at point 0, the last one that was looked at is none
		{[]string{"\x00", "\x00\x00"}, at('a'), at('a'), 0, false},
	} {
		got, is := walk.Middle(filled(t, c.keys...), api.Arc{From: c.from, To: c.to})
		if got != c.want || is != c.is {
			t.Errorf("Middle(%x, %x) of %q: %x, %t, not %x, %t", c.from, c.to, c.keys, got, is, c.want, c.is)
		}
	}
	for _, s := range empties(t) {
		for _, a := range []api.Arc{{}, {From: 3, To: 3}, {From: 9, To: 3}, {From: 3, To: 9}} {
			if got, is := walk.Middle(s, a); got != 0 || is {
				t.Errorf("Middle(%v) of nothing: %x, %t", a, got, is)
			}
		}
	}
}

// TestP502MiddleCuts: what comes ahead of it is at least half, and what is left at least one.
func TestP502MiddleCuts(t *testing.T) {
	for _, set := range sets() {
		s := filled(t, set...)
		for _, from := range points(set) {
			for _, to := range points(set) {
				a := api.Arc{From: from, To: to}
				items := along(s, a)
				want, should := middle(items)
				got, is := walk.Middle(s, a)
				if got != want || is != should {
					t.Fatalf("Middle(%x, %x) of %q: %x, %t, not %x, %t", from, to, keys(items), got, is, want, should)
				}
				if !is {
					continue
				}
				lower, other := walk.Count(s, api.Arc{From: from, To: got}), walk.Count(s, api.Arc{From: got, To: to})
				if 2*lower < len(items) || other < 1 || lower+other != len(items) {
					t.Fatalf("Middle(%x, %x) of %d: %x cuts it into %d and %d", from, to, len(items), got, lower, other)
				}
			}
		}
	}
}
