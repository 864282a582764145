package key_test

import (
	"math"
	"slices"
	"strings"
	"testing"

	"rosary/api"
	"rosary/key"
)

// texts lists all texts of up to most of those bytes, each behind a beginning.
func texts(beginning, bytes string, most int) []string {
	all := []string{beginning}
	for from := 0; most > 0; most-- {
		to := len(all)
		for _, t := range all[from:to] {
			for i := range len(bytes) {
				all = append(all, t+bytes[i:i+1])
			}
		}
		from = to
	}
	return all
}

// samples lists short texts, and longer ones that differ around the eighth byte.
func samples() []string {
	const bytes = "\x00\x01a\xff"
	all := texts("", bytes, 3)
	all = append(all, texts("abcdef", bytes, 3)...)
	all = append(all, texts("\x00\x00\x00\x00\x00\x00\x00", bytes, 2)...)
	all = append(all, texts("\xff\xff\xff\xff\xff\xff\xff", bytes, 2)...)
	for _, n := range []int{api.MaxKey - 1, api.MaxKey, api.MaxKey + 1} {
		all = append(all, strings.Repeat("k", n), strings.Repeat("\x00", n), strings.Repeat("\xff", n))
	}
	return all
}

// less holds two texts against each other as P101 says it, word for word.
func less(a, b string) bool {
	for i := range min(len(a), len(b)) {
		if a[i] != b[i] {
			return a[i] < b[i]
		}
	}
	return len(a) < len(b)
}

// addr works a point out as P101 says it: eight bytes, zeros behind.
func addr(k string) uint64 {
	var a uint64
	for _, b := range []byte((k + "\x00\x00\x00\x00\x00\x00\x00\x00")[:8]) {
		a = a*256 + uint64(b)
	}
	return a
}

func TestP101Right(t *testing.T) {
	for _, c := range []struct {
		key  string
		want api.Errno
	}{
		{"", api.ErrKey},
		{"a", api.OK},
		{"\x00", api.OK},
		{"\xff\xfe", api.OK},
		{"abcdefg", api.OK},
		{"abcdefgh", api.OK},
		{"abcdefghi", api.OK},
		{strings.Repeat("k", api.MaxKey-1), api.OK},
		{strings.Repeat("k", api.MaxKey), api.OK},
		{strings.Repeat("k", api.MaxKey+1), api.ErrKey},
		{strings.Repeat("\x00", api.MaxKey), api.OK},
		{strings.Repeat("\x00", api.MaxKey+1), api.ErrKey},
		{strings.Repeat("é", api.MaxKey/2), api.OK}, // bytes count, not runes
		{strings.Repeat("é", api.MaxKey/2+1), api.ErrKey},
		{strings.Repeat("k", 1<<16), api.ErrKey},
	} {
		if got := key.Right(c.key); got != c.want {
			t.Errorf("Right(%.20q of %d): %d, not %d", c.key, len(c.key), got, c.want)
		}
	}
}

func TestP101Value(t *testing.T) {
	for _, c := range []struct {
		value string
		want  api.Errno
	}{
		{"", api.OK},
		{"v", api.OK},
		{"\x00", api.OK},
		{strings.Repeat("v", api.MaxValue-1), api.OK},
		{strings.Repeat("v", api.MaxValue), api.OK},
		{strings.Repeat("v", api.MaxValue+1), api.ErrValue},
		{strings.Repeat("\x00", api.MaxValue), api.OK},
		{strings.Repeat("\x00", api.MaxValue+1), api.ErrValue},
		{strings.Repeat("é", api.MaxValue/2), api.OK},
		{strings.Repeat("é", api.MaxValue/2+1), api.ErrValue},
		{strings.Repeat("v", 1<<16), api.ErrValue},
	} {
		if got := key.Value(c.value); got != c.want {
			t.Errorf("Value(%.20q of %d): %d, not %d", c.value, len(c.value), got, c.want)
		}
	}
}

func TestP101Addr(t *testing.T) {
	for _, c := range []struct {
		key  string
		want uint64
	}{
		{"", 0},
		{"a", 97 << 56},
		{"\x00", 0},
		{"\x01", 1 << 56},
		{"ab", 0x6162 << 48},
		{"a\x00", 0x61 << 56},
		{"a\x00b", 0x610062 << 40},
		{"\x00\x00\x00\x00\x00\x00\x00", 0},
		{"\x00\x00\x00\x00\x00\x00\x00\x01", 1},
		{"\x00\x00\x00\x00\x00\x00\x00\x00\x01", 0},
		{"abcdefg", 0x61626364656667 << 8},
		{"abcdefgh", 0x6162636465666768},
		{"abcdefghi", 0x6162636465666768},
		{"abcdefgh\xff", 0x6162636465666768},
		{"\x80", 1 << 63},
		{"\xff\xff\xff\xff\xff\xff\xff", math.MaxUint64 - 255},
		{"\xff\xff\xff\xff\xff\xff\xff\xff", math.MaxUint64},
		{strings.Repeat("\xff", api.MaxKey), math.MaxUint64},
		{strings.Repeat("\xff", api.MaxKey+1), math.MaxUint64}, // a wrong key lies somewhere too
	} {
		if got := key.Addr(c.key); got != c.want {
			t.Errorf("Addr(%q): %#x, not %#x", c.key, got, c.want)
		}
	}
	for _, k := range samples() {
		if got := key.Addr(k); got != addr(k) {
			t.Errorf("Addr(%q): %#x, not %#x", k, got, addr(k))
		}
	}
}

func TestP101Less(t *testing.T) {
	for _, c := range []struct {
		a, b string
		want bool
	}{
		{"", "", false},
		{"", "\x00", true},
		{"\x00", "", false},
		{"a", "a", false},
		{"a", "b", true},
		{"b", "a", false},
		{"a", "a\x00", true}, // a beginning is less, though both lie at one point
		{"a\x00", "a", false},
		{"a\x00", "a\x00\x00", true},
		{"a\x00b", "a\x01", true},
		{"ab", "b", true},
		{"b", "ab", false},
		{"\x7f", "\x80", true}, // bytes are not below 0
		{"z", "é", true},
		{"abcdefgha", "abcdefghb", true}, // the ninth byte counts
		{"abcdefghb", "abcdefgha", false},
		{"abcdefgh", "abcdefghi", true},
		{strings.Repeat("k", api.MaxKey), strings.Repeat("k", api.MaxKey+1), true},
	} {
		if got := key.Less(c.a, c.b); got != c.want {
			t.Errorf("Less(%q, %q): %t", c.a, c.b, got)
		}
	}
	all := samples()
	for _, a := range all {
		for _, b := range all {
			if got := key.Less(a, b); got != less(a, b) {
				t.Errorf("Less(%q, %q): %t", a, b, got)
			}
		}
	}
}

func TestP102First(t *testing.T) {
	for _, c := range []struct {
		point uint64
		want  string
	}{
		{0, ""},
		{97 << 56, "a"},
		{1 << 63, "\x80"},
		{1, "\x00\x00\x00\x00\x00\x00\x00\x01"},
		{255, "\x00\x00\x00\x00\x00\x00\x00\xff"},
		{256, "\x00\x00\x00\x00\x00\x00\x01"},
		{0x6100620000000000, "a\x00b"},
		{0x6162636465666700, "abcdefg"},
		{0x6162636465666768, "abcdefgh"},
		{math.MaxUint64, "\xff\xff\xff\xff\xff\xff\xff\xff"},
		{math.MaxUint64 - 255, "\xff\xff\xff\xff\xff\xff\xff"},
	} {
		if got := key.First(c.point); got != c.want {
			t.Errorf("First(%#x): %q, not %q", c.point, got, c.want)
		}
	}
}

func TestP102FirstIsLeast(t *testing.T) {
	all := samples()
	for _, k := range all {
		a := key.Addr(k)
		first := key.First(a)
		if key.Addr(first) != a {
			t.Errorf("First(%#x): %q lies at %#x", a, first, key.Addr(first))
		}
		if strings.HasSuffix(first, "\x00") || len(first) > 8 {
			t.Errorf("First(%#x): %q", a, first)
		}
		if key.Less(k, first) {
			t.Errorf("First(%#x): %q, but %q is less and lies there too", a, first, k)
		}
	}
	for bit := range 64 {
		a := uint64(1) << bit
		for _, point := range []uint64{a - 1, a, a + 1, -a} {
			if got := key.Addr(key.First(point)); got != point {
				t.Errorf("First(%#x): %q lies at %#x", point, key.First(point), got)
			}
		}
	}
}

func TestP102Past(t *testing.T) {
	for _, c := range []struct{ key, want string }{
		{"", "\x00"},
		{"a", "a\x00"},
		{"\x00", "\x00\x00"},
		{"a\x00", "a\x00\x00"},
		{"\xff", "\xff\x00"},
		{"abcdefg", "abcdefg\x00"},
		{"abcdefgh", "abcdefgh\x00"},
		{strings.Repeat("k", api.MaxKey), strings.Repeat("k", api.MaxKey) + "\x00"},
		{strings.Repeat("k", api.MaxKey+1), strings.Repeat("k", api.MaxKey+1) + "\x00"},
	} {
		if got := key.Past(c.key); got != c.want {
			t.Errorf("Past(%q): %q, not %q", c.key, got, c.want)
		}
	}
	all := samples()
	for _, k := range all {
		past := key.Past(k)
		if !key.Less(k, past) {
			t.Errorf("Past(%q): %q is not behind it", k, past)
		}
		for _, between := range all {
			if key.Less(k, between) && key.Less(between, past) {
				t.Errorf("Past(%q): %q, but %q lies between", k, past, between)
			}
		}
	}
}

func TestP103(t *testing.T) {
	all := samples()
	for _, a := range all {
		for _, b := range all {
			if !key.Less(a, b) && key.Addr(a) < key.Addr(b) {
				t.Errorf("%q is not less than %q, but lies at %#x and the other at %#x", a, b, key.Addr(a), key.Addr(b))
			}
			if key.Addr(a) < key.Addr(b) && !key.Less(a, b) {
				t.Errorf("%q lies ahead of %q, but is not less", a, b)
			}
		}
	}
	slices.SortFunc(all, func(a, b string) int {
		switch {
		case key.Less(a, b):
			return -1
		case key.Less(b, a):
			return 1
		}
		return 0
	})
	if !slices.IsSortedFunc(all, func(a, b string) int { return strings.Compare(a, b) }) {
		t.Error("sorted by Less, the texts are not in their order")
	}
	for i := range len(all) - 1 {
		if key.Addr(all[i]) > key.Addr(all[i+1]) {
			t.Errorf("%q lies behind %q", all[i], all[i+1])
		}
	}
}
