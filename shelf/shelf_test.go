package shelf_test

import (
	"maps"
	"math"
	"slices"
	"strconv"
	"strings"
	"testing"

	"rosary/api"
	"rosary/key"
	"rosary/shelf"
)

// nth is a key: they rise as the numbers do.
func nth(i int) string {
	return string([]byte{'k', byte(i >> 8), byte(i)})
}

// deep tells the most levels of so many items, as P402 says it.
func deep(items int) int {
	levels := 1
	for ; items > 0; items /= 4 {
		levels++
	}
	return levels
}

// check holds all that a shelf tells against what it should have, and its nodes against P402.
func check(t *testing.T, what string, s *shelf.Shelf, want map[string]string) {
	t.Helper()
	if s.Len() != len(want) {
		t.Fatalf("%s: Len %d, not %d", what, s.Len(), len(want))
	}
	var items []api.Item
	for _, k := range slices.Sorted(maps.Keys(want)) {
		items = append(items, api.Item{Key: k, Value: want[k]})
	}
	if got := s.Items(); !slices.Equal(got, items) {
		t.Fatalf("%s: Items %q, not %q", what, got, items)
	}
	for k, v := range want {
		if got, is := s.Get(k); got != v || !is {
			t.Fatalf("%s: Get(%q): %q, %t, not %q", what, k, got, is, v)
		}
	}
	if depth := s.Depth(); depth > deep(len(want)) || (depth == 0) != (len(want) == 0) {
		t.Fatalf("%s: Depth %d of %d items", what, depth, len(want))
	}
	if f := shelf.Fault(s); f != "" {
		t.Fatalf("%s: %s", what, f)
	}
}

// fill makes a shelf with room for the most, and what it has: so many items.
func fill(t *testing.T, items int) (*shelf.Shelf, map[string]string) {
	t.Helper()
	s, want := shelf.New(api.MaxItems), map[string]string{}
	for i := range items {
		put(t, s, want, nth(i), strconv.Itoa(i))
	}
	return s, want
}

// put puts an item into both.
func put(t *testing.T, s *shelf.Shelf, want map[string]string, k, v string) {
	t.Helper()
	if e := s.Put(k, v); e != api.OK {
		t.Fatalf("Put(%q, %q) into %d items: %d", k, v, len(want), e)
	}
	want[k] = v
}

// del takes a key from both.
func del(t *testing.T, s *shelf.Shelf, want map[string]string, k string) {
	t.Helper()
	_, is := want[k]
	if got := s.Del(k); got != is {
		t.Fatalf("Del(%q) of %d items: %t", k, len(want), got)
	}
	delete(want, k)
}

func TestP401New(t *testing.T) {
	for _, c := range []struct{ most, room int }{
		{math.MinInt, 0}, {-3, 0}, {-1, 0}, {0, 0}, {1, 1}, {2, 2}, {3, 3},
		{shelf.Width - 1, shelf.Width - 1}, {shelf.Width, shelf.Width}, {shelf.Width + 1, shelf.Width + 1}, {100, 100},
		{api.MaxItems - 1, api.MaxItems - 1}, {api.MaxItems, api.MaxItems},
		{api.MaxItems + 1, api.MaxItems}, {500, api.MaxItems}, {math.MaxInt, api.MaxItems},
	} {
		s, want := shelf.New(c.most), map[string]string{}
		what := "New(" + strconv.Itoa(c.most) + ")"
		check(t, what, s, want)
		full := func() {
			t.Helper()
			for range 2 { // what found no room is not there, and is told the same again
				if e := s.Put("x", "v"); e != api.ErrFull {
					t.Errorf("%s: Put into %d items: %d", what, len(want), e)
				}
			}
			if _, is := s.Get("x"); is || s.Del("x") {
				t.Errorf("%s: what found no room is there", what)
			}
			check(t, what+", full", s, want)
		}
		for i := range c.room {
			put(t, s, want, nth(i), "v")
		}
		full()
		for i := range c.room { // a key that is there needs no room
			put(t, s, want, nth(i), "other")
		}
		full()
		for i := range c.room {
			del(t, s, want, nth(i))
			check(t, what+", one less", s, want)
			put(t, s, want, nth(i)+"b", "v")
			full()
		}
		for i := range c.room {
			del(t, s, want, nth(i)+"b")
		}
		check(t, what+", empty again", s, want)
	}
}

func TestP401Put(t *testing.T) {
	texts := func(n int) string { return strings.Repeat("x", n) }
	for _, c := range []struct {
		key, value string
		room, full api.Errno // with room for one more; with none
	}{
		{"a", "", api.OK, api.ErrFull},
		{"a", "v", api.OK, api.ErrFull},
		{"\x00", "\x00", api.OK, api.ErrFull},
		{"a", texts(api.MaxValue), api.OK, api.ErrFull},
		{texts(api.MaxKey), texts(api.MaxValue), api.OK, api.ErrFull},
		{"full", texts(api.MaxValue), api.OK, api.OK},
		{"a", texts(api.MaxValue + 1), api.ErrValue, api.ErrValue},
		{"full", texts(api.MaxValue + 1), api.ErrValue, api.ErrValue},
		{texts(api.MaxKey), texts(api.MaxValue + 1), api.ErrValue, api.ErrValue},
		{"", "", api.ErrKey, api.ErrKey},
		{"", texts(api.MaxValue + 1), api.ErrKey, api.ErrKey},
		{texts(api.MaxKey + 1), "v", api.ErrKey, api.ErrKey},
		{texts(api.MaxKey + 1), texts(api.MaxValue + 1), api.ErrKey, api.ErrKey},
	} {
		for most, e := range map[int]api.Errno{2: c.room, 1: c.full} {
			s, want := shelf.New(most), map[string]string{}
			put(t, s, want, "full", "0")
			if got := s.Put(c.key, c.value); got != e {
				t.Errorf("Put(%q, %q), room for %d: %d, not %d", c.key, c.value, most, got, e)
			}
			if e == api.OK {
				want[c.key] = c.value
			}
			check(t, "Put", s, want)
		}
		empty, e := shelf.New(0), c.room // none of its errors needs an item
		if e == api.OK {
			e = api.ErrFull
		}
		if got := empty.Put(c.key, c.value); got != e {
			t.Errorf("Put(%q, %q), room for none: %d, not %d", c.key, c.value, got, e)
		}
	}
}

func TestP401PutAgain(t *testing.T) {
	for _, items := range []int{1, 5, 6, 7, 30, 100, api.MaxItems} {
		s, want := fill(t, items)
		for i := range items { // keys of the lowest level and of all above it
			for _, v := range []string{"new", "", "newer"} {
				put(t, s, want, nth(i), v)
			}
			check(t, "Put again", s, want)
		}
	}
}

func TestP401Get(t *testing.T) {
	for _, items := range []int{0, 1, 6, 7, 50, api.MaxItems} {
		s, want := fill(t, items)
		check(t, "filled", s, want)
		others := []string{"", "a", "k", "l", "\x00", "\xff", nth(items), strings.Repeat("k", api.MaxKey), strings.Repeat("k", api.MaxKey+1)}
		for i := range items { // right behind each key, and ahead of it
			others = append(others, key.Past(nth(i)), "k"+nth(i), nth(i)[1:])
		}
		for _, k := range others {
			if v, is := s.Get(k); v != "" || is {
				t.Errorf("Get(%q) of %d items: %q, %t", k, items, v, is)
			}
			if s.Del(k) {
				t.Errorf("Del(%q) of %d items: true", k, items)
			}
		}
		check(t, "asked for others", s, want)
	}
}

func TestP401Del(t *testing.T) {
	for items := range api.MaxItems + 1 {
		for _, i := range []int{0, items / 3, items / 2, items - 2, items - 1} {
			if i < 0 || i >= items {
				continue
			}
			s, want := fill(t, items)
			del(t, s, want, nth(i))
			if v, is := s.Get(nth(i)); v != "" || is {
				t.Errorf("Get(%q), deleted: %q, %t", nth(i), v, is)
			}
			if s.Del(nth(i)) {
				t.Errorf("Del(%q) again: true", nth(i))
			}
			check(t, "Del", s, want)
			put(t, s, want, nth(i), "back")
			check(t, "back", s, want)
		}
	}
	for i := range 60 { // each key of one of three levels
		s, want := fill(t, 60)
		del(t, s, want, nth(i))
		check(t, "Del", s, want)
	}
	s, want := shelf.New(3), map[string]string{}
	del(t, s, want, "a")
	put(t, s, want, "a", "1")
	del(t, s, want, "a")
	del(t, s, want, "a")
	check(t, "empty again", s, want)
}

func TestP401Items(t *testing.T) {
	keys := []string{
		"\x00", "\x00\x00", "\x00a", "a", "a\x00", "a\x00\x00", "a\x00b", "a\x01", "aa", "ab", "abcdefg", "abcdefgh", "abcdefgh\x00",
		"abcdefgha", "abcdefghb", strings.Repeat("b", api.MaxKey-1), strings.Repeat("b", api.MaxKey), "é", "\x7f", "\x80", "\xff", "\xff\x00", "\xff\xff",
	}
	s, want := shelf.New(api.MaxItems), map[string]string{}
	for i := range keys {
		put(t, s, want, keys[i*7%len(keys)], strconv.Itoa(i))
		check(t, "bytes of all kinds", s, want)
	}
	slices.SortFunc(keys, func(a, b string) int {
		if key.Less(a, b) {
			return -1
		}
		return 1
	})
	list := s.Items()
	for i, item := range list {
		if item.Key != keys[i] {
			t.Errorf("Items: %q at %d, not %q", item.Key, i, keys[i])
		}
	}
	clear(list) // it is the caller's own
	list = append(list[:0], api.Item{Key: "mine"})
	check(t, "a list was written into", s, want)
	if list[0].Key != "mine" {
		t.Error("a list that was told is written into")
	}
	before := s.Items()
	kept := slices.Clone(before)
	for _, k := range keys {
		put(t, s, want, k, "other")
		del(t, s, want, k)
	}
	if !slices.Equal(before, kept) {
		t.Error("a list that was told is written into")
	}
	if got := s.Items(); len(got) != 0 {
		t.Errorf("Items of an empty one: %q", got)
	}
}

func TestP401Copy(t *testing.T) {
	for _, items := range []int{0, 1, 6, 7, 40, 150, api.MaxItems} {
		s, want := fill(t, items)
		c := s.Copy()
		check(t, "a copy", c, want)
		if shelf.Shared(s, c) {
			t.Errorf("a copy of %d items shares with what it was made of", items)
		}
		if s.Depth() != c.Depth() {
			t.Errorf("a copy of %d items: Depth %d and %d", items, s.Depth(), c.Depth())
		}
		left, right := maps.Clone(want), maps.Clone(want)
		for i := range items {
			switch i % 4 {
			case 0:
				del(t, s, left, nth(i))
				put(t, c, right, nth(i), "right")
			case 1:
				del(t, c, right, nth(i))
				put(t, s, left, nth(i), "left")
			case 2:
				del(t, s, left, nth(i))
				put(t, s, left, nth(i)+"s", "left")
			case 3:
				del(t, c, right, nth(i))
				put(t, c, right, nth(i)+"c", "right")
			}
			check(t, "what a copy was made of", s, left)
			check(t, "a copy", c, right)
		}
	}
	for _, most := range []int{-1, 0, 1, 7, 20, api.MaxItems} { // the same room, however full it was
		for had := range max(most, 0) + 1 {
			s, want := shelf.New(most), map[string]string{}
			for i := range had {
				put(t, s, want, nth(i), "v")
			}
			c := s.Copy().Copy()
			for i := had; i < most; i++ {
				put(t, c, want, nth(i), "v")
			}
			if e := c.Put("x", "v"); e != api.ErrFull {
				t.Errorf("a copy with room for %d: %d", most, e)
			}
			check(t, "a full copy", c, want)
			if s.Len() != had {
				t.Errorf("Len %d, not %d: a copy was put into", s.Len(), had)
			}
		}
	}
}

func TestP401Nil(t *testing.T) {
	var none *shelf.Shelf
	for what, s := range map[string]*shelf.Shelf{"nil": none, "zero": {}} {
		for range 2 {
			for _, k := range []string{"", "a", strings.Repeat("k", api.MaxKey+1)} {
				for _, v := range []string{"", strings.Repeat("v", api.MaxValue+1)} {
					if e := s.Put(k, v); e != api.ErrState {
						t.Errorf("%s: Put(%q, %q): %d", what, k, v, e)
					}
				}
				if v, is := s.Get(k); v != "" || is {
					t.Errorf("%s: Get(%q): %q, %t", what, k, v, is)
				}
				if s.Del(k) {
					t.Errorf("%s: Del(%q): true", what, k)
				}
			}
			if s.Len() != 0 || s.Depth() != 0 || len(s.Items()) != 0 || s.Copy() != nil {
				t.Errorf("%s: Len %d, Depth %d, Items %q, Copy %v", what, s.Len(), s.Depth(), s.Items(), s.Copy())
			}
		}
	}
}

// orders lists ways to go through so many numbers: rising, falling, and mixed ones.
func orders(many int) map[string][]int {
	rising := make([]int, many)
	for i := range rising {
		rising[i] = i
	}
	falling := slices.Clone(rising)
	slices.Reverse(falling)
	all := map[string][]int{"rising": rising, "falling": falling}
	var inward, outward []int
	for i := range many {
		if i%2 == 0 {
			inward = append(inward, i/2)
		} else {
			inward = append(inward, many-1-i/2)
		}
	}
	outward = slices.Clone(inward)
	slices.Reverse(outward)
	all["inward"], all["outward"] = inward, outward
	for _, step := range []int{7, 37, 73, 101} {
		mixed := make([]int, many)
		for i := range mixed {
			mixed[i] = i * step % many
		}
		all["by "+strconv.Itoa(step)] = mixed
	}
	return all
}

func TestP402Depth(t *testing.T) {
	for in, first := range orders(api.MaxItems) {
		for out, then := range orders(api.MaxItems) {
			s, want := shelf.New(api.MaxItems), map[string]string{}
			levels := func(what string) {
				t.Helper()
				// Up to Width items the top is all there is; with more it has two below it, at least.
				if one := len(want) > 0 && len(want) <= shelf.Width; one != (s.Depth() == 1) || len(want) == 0 && s.Depth() != 0 {
					t.Fatalf("%s, %s: Depth %d of %d items", what, in+", "+out, s.Depth(), len(want))
				}
			}
			levels("New")
			for _, i := range first {
				put(t, s, want, nth(i), "")
				levels("Put")
			}
			for _, i := range then {
				del(t, s, want, nth(i))
				levels("Del")
			}
		}
	}
}

func TestP402Orders(t *testing.T) {
	for _, many := range []int{1, 6, 7, 8, 31, 48, 49, 99, api.MaxItems} {
		for in, first := range orders(many) {
			for out, then := range orders(many) {
				what := "in " + in + ", out " + out
				s, want := shelf.New(many), map[string]string{}
				for _, i := range first {
					put(t, s, want, nth(i), strconv.Itoa(i))
					quick(t, what, s, want)
				}
				check(t, what, s, want)
				for at, i := range then {
					del(t, s, want, nth(i))
					quick(t, what, s, want)
					if at == len(then)/2 {
						check(t, what, s, want)
					}
				}
				check(t, what, s, want)
			}
		}
	}
}

// quick holds how many there are, and the nodes, against P402: the keys rise there, too.
func quick(t *testing.T, what string, s *shelf.Shelf, want map[string]string) {
	t.Helper()
	if s.Len() != len(want) || s.Depth() > deep(len(want)) {
		t.Fatalf("%s: Len %d, Depth %d of %d items", what, s.Len(), s.Depth(), len(want))
	}
	if f := shelf.Fault(s); f != "" {
		t.Fatalf("%s, %d items: %s", what, len(want), f)
	}
}

func TestP402Mixed(t *testing.T) {
	draw := uint32(1) // numbers that look drawn, the same each time
	next := func(below int) int {
		draw = draw*1664525 + 1013904223
		return int(draw>>8) % below
	}
	for _, most := range []int{1, 7, 20, 60, api.MaxItems} {
		s, want := shelf.New(most), map[string]string{}
		for step := range 6000 {
			k := nth(next(most + most/4 + 1))
			_, is := want[k]
			rising := step/500%2 == 0 // it gets full, and empty again
			switch n := next(8); {
			case (n < 6) != rising:
				del(t, s, want, k)
			case len(want) == most && !is:
				if e := s.Put(k, "v"); e != api.ErrFull {
					t.Fatalf("Put(%q) into a full one: %d", k, e)
				}
			default:
				put(t, s, want, k, strconv.Itoa(step))
			}
			check(t, "mixed", s, want)
		}
	}
}
