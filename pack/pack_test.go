package pack_test

import (
	"math"
	"strings"
	"testing"

	"rosary/pack"
)

// part is one that is written, and how it reads back.
type part struct {
	name  string
	bytes string
	read  func(r *pack.Reader) bool // reads it, and tells whether it came back
	zero  func(r *pack.Reader) bool // reads it, and tells whether nothing came back
}

func num(t *testing.T, v int) part {
	t.Helper()
	b, is := pack.Num(v)
	if !is {
		t.Fatalf("Num(%d): false", v)
	}
	return part{"Num", b,
		func(r *pack.Reader) bool { return r.Num() == v },
		func(r *pack.Reader) bool { return r.Num() == 0 }}
}

func text(t *testing.T, s string) part {
	t.Helper()
	b, is := pack.Text(s)
	if !is {
		t.Fatalf("Text(%d bytes): false", len(s))
	}
	return part{"Text", b,
		func(r *pack.Reader) bool { return r.Text() == s },
		func(r *pack.Reader) bool { return r.Text() == "" }}
}

func wide(v uint64) part {
	return part{"Wide", pack.Wide(v),
		func(r *pack.Reader) bool { return r.Wide() == v },
		func(r *pack.Reader) bool { return r.Wide() == 0 }}
}

// parts lists parts of all kinds, the least, the greatest and some between.
func parts(t *testing.T) []part {
	t.Helper()
	var all []part
	for _, v := range []int{0, 1, 255, 256, 258, 65534, 65535} {
		all = append(all, num(t, v))
	}
	for _, s := range []string{"", "a", "\x00", "ab", "\xff\xfe\x80", "é", strings.Repeat("x", 128), strings.Repeat("\x00", 254), strings.Repeat("\xff", 255)} {
		all = append(all, text(t, s))
	}
	for _, v := range []uint64{0, 1, 258, 1 << 40, 1 << 63, 0x0102030405060708, math.MaxUint64 - 1, math.MaxUint64} {
		all = append(all, wide(v))
	}
	return all
}

// stays tells what is wrong with a Reader that should be Bad from now on: it is asked in all orders.
func stays(t *testing.T, what string, r *pack.Reader) {
	t.Helper()
	for range 3 {
		if !r.Bad() || r.End() {
			t.Errorf("%s: Bad %v, End %v", what, r.Bad(), r.End())
		}
		if v := r.Num(); v != 0 || !r.Bad() {
			t.Errorf("%s: Num %d, then Bad %v", what, v, r.Bad())
		}
		if s := r.Text(); s != "" || !r.Bad() {
			t.Errorf("%s: Text %q, then Bad %v", what, s, r.Bad())
		}
		if v := r.Wide(); v != 0 || !r.Bad() {
			t.Errorf("%s: Wide %d, then Bad %v", what, v, r.Bad())
		}
		if s := r.Text(); s != "" || !r.Bad() || r.End() {
			t.Errorf("%s: Text %q, then Bad %v, End %v", what, s, r.Bad(), r.End())
		}
	}
}

func TestP301Num(t *testing.T) {
	for _, c := range []struct {
		v    int
		want string
		is   bool
	}{
		{258, "\x01\x02", true}, // the document's
		{0, "\x00\x00", true},
		{1, "\x00\x01", true},
		{127, "\x00\x7f", true},
		{128, "\x00\x80", true},
		{255, "\x00\xff", true},
		{256, "\x01\x00", true},
		{32767, "\x7f\xff", true},
		{32768, "\x80\x00", true},
		{65534, "\xff\xfe", true},
		{65535, "\xff\xff", true},
		{65536, "", false},
		{65537, "", false},
		{1 << 24, "", false},
		{-1, "", false},
		{-65536, "", false},
		{math.MaxInt, "", false},
		{math.MinInt, "", false},
		{math.MinInt + 1, "", false}, // its last bytes alone would be right ones
	} {
		if got, is := pack.Num(c.v); got != c.want || is != c.is {
			t.Errorf("Num(%d): %q, %v, not %q, %v", c.v, got, is, c.want, c.is)
		}
	}
}

// TestP301NumAll: every number that may be comes back.
func TestP301NumAll(t *testing.T) {
	for v := range 65536 {
		b, is := pack.Num(v)
		if r := pack.From(b); !is || len(b) != 2 || r.Num() != v || !r.End() {
			t.Fatalf("Num(%d): %q, %v", v, b, is)
		}
	}
}

func TestP301Text(t *testing.T) {
	for _, c := range []struct {
		s, want string
		is      bool
	}{
		{"", "\x00", true},
		{"a", "\x01a", true},
		{"ab", "\x02ab", true},
		{"\x00", "\x01\x00", true},
		{"\xff\xfe", "\x02\xff\xfe", true},
		{"é", "\x02\xc3\xa9", true}, // bytes count, not runes
		{strings.Repeat("x", 127), "\x7f" + strings.Repeat("x", 127), true},
		{strings.Repeat("x", 128), "\x80" + strings.Repeat("x", 128), true},
		{strings.Repeat("x", 254), "\xfe" + strings.Repeat("x", 254), true},
		{strings.Repeat("x", 255), "\xff" + strings.Repeat("x", 255), true},
		{strings.Repeat("\x00", 255), "\xff" + strings.Repeat("\x00", 255), true},
		{strings.Repeat("x", 256), "", false},
		{strings.Repeat("x", 257), "", false},
		{strings.Repeat("é", 128), "", false},
		{strings.Repeat("x", 1<<16), "", false},
	} {
		if got, is := pack.Text(c.s); got != c.want || is != c.is {
			t.Errorf("Text(%.10q of %d): %.10q of %d, %v", c.s, len(c.s), got, len(got), is)
		}
	}
}

func TestP301Wide(t *testing.T) {
	for _, c := range []struct {
		v    uint64
		want string
	}{
		{0, "\x00\x00\x00\x00\x00\x00\x00\x00"},
		{1, "\x00\x00\x00\x00\x00\x00\x00\x01"},
		{258, "\x00\x00\x00\x00\x00\x00\x01\x02"},
		{65536, "\x00\x00\x00\x00\x00\x01\x00\x00"},
		{1 << 32, "\x00\x00\x00\x01\x00\x00\x00\x00"},
		{0x0102030405060708, "\x01\x02\x03\x04\x05\x06\x07\x08"},
		{1<<63 - 1, "\x7f\xff\xff\xff\xff\xff\xff\xff"},
		{1 << 63, "\x80\x00\x00\x00\x00\x00\x00\x00"},
		{math.MaxUint64 - 1, "\xff\xff\xff\xff\xff\xff\xff\xfe"},
		{math.MaxUint64, "\xff\xff\xff\xff\xff\xff\xff\xff"},
	} {
		if got := pack.Wide(c.v); got != c.want {
			t.Errorf("Wide(%#x): %q, not %q", c.v, got, c.want)
		}
		if r := pack.From(c.want); r.Wide() != c.v || !r.End() {
			t.Errorf("Wide(%#x) does not come back", c.v)
		}
	}
	for bit := range 64 {
		for _, v := range []uint64{1<<bit - 1, 1 << bit, 1<<bit + 1} {
			if r := pack.From(pack.Wide(v)); r.Wide() != v || !r.End() {
				t.Errorf("Wide(%#x) does not come back", v)
			}
		}
	}
}

// TestP301Read: bytes that no call of the package wrote.
func TestP301Read(t *testing.T) {
	r := pack.From("\xff\xff\x00\x03a\x00b\x80\x00\x00\x00\x00\x00\x00\x01\x01\x02")
	if v := r.Num(); v != 65535 {
		t.Errorf("Num: %d", v)
	}
	if s := r.Text(); s != "" || r.Bad() {
		t.Errorf("Text: %q, Bad %v", s, r.Bad())
	}
	if s := r.Text(); s != "a\x00b" {
		t.Errorf("Text: %q", s)
	}
	if v := r.Wide(); v != 1<<63+1 {
		t.Errorf("Wide: %#x", v)
	}
	if r.End() || r.Bad() {
		t.Errorf("ahead of the last: End %v, Bad %v", r.End(), r.Bad())
	}
	if v := r.Num(); v != 258 || !r.End() || r.Bad() {
		t.Errorf("Num: %d, End %v, Bad %v", v, r.End(), r.Bad())
	}
}

// TestP301Behind: any three parts, one behind the other, come back, and nothing behind them.
func TestP301Behind(t *testing.T) {
	all := parts(t)
	for _, a := range all {
		for _, b := range all {
			for _, c := range all {
				r := pack.From(a.bytes + b.bytes + c.bytes)
				for at, p := range []part{a, b, c} {
					if r.End() || r.Bad() {
						t.Fatalf("ahead of part %d of %s, %s, %s: End %v, Bad %v", at, a.name, b.name, c.name, r.End(), r.Bad())
					}
					if !p.read(r) || r.Bad() {
						t.Fatalf("part %d of %q, %q, %q: Bad %v", at, a.bytes, b.bytes, c.bytes, r.Bad())
					}
				}
				if !r.End() || r.Bad() {
					t.Fatalf("behind %q, %q, %q: End %v, Bad %v", a.bytes, b.bytes, c.bytes, r.End(), r.Bad())
				}
			}
		}
	}
}

// TestP301Short: of each part every beginning is too little, alone and behind others.
func TestP301Short(t *testing.T) {
	all := parts(t)
	for _, p := range all {
		for n := range len(p.bytes) {
			r := pack.From(p.bytes[:n])
			if !p.zero(r) {
				t.Errorf("%s of %d bytes of %d: not nothing", p.name, n, len(p.bytes))
			}
			stays(t, p.name, r)
			for _, first := range all {
				r := pack.From(first.bytes + p.bytes[:n])
				if !first.read(r) || r.Bad() {
					t.Fatalf("%s ahead of %d bytes of %s: Bad %v", first.name, n, p.name, r.Bad())
				}
				if !p.zero(r) {
					t.Errorf("%s of %d bytes of %d behind %s: not nothing", p.name, n, len(p.bytes), first.name)
				}
				stays(t, p.name, r)
			}
		}
	}
}

// TestP301Over: a byte too many is no fault, but not the end.
func TestP301Over(t *testing.T) {
	for _, p := range parts(t) {
		r := pack.From(p.bytes + "\x00")
		if !p.read(r) || r.Bad() || r.End() {
			t.Errorf("%s ahead of a byte: Bad %v, End %v", p.name, r.Bad(), r.End())
		}
		if r.Text() != "" || r.Bad() || !r.End() {
			t.Errorf("the byte behind %s is no text of none: Bad %v, End %v", p.name, r.Bad(), r.End())
		}
		if !p.zero(r) {
			t.Errorf("%s behind the end: not nothing", p.name)
		}
		stays(t, "behind the end", r)
	}
}

// TestP301Bad: what is still there behind a fault is not read any more, though it would do.
func TestP301Bad(t *testing.T) {
	for _, c := range []struct {
		what, bytes string
		read        func(r *pack.Reader) bool
	}{
		{"a number of one byte", "\x01", func(r *pack.Reader) bool { return r.Num() == 0 }},
		{"a byte that would be a text of none", "\x00", func(r *pack.Reader) bool { return r.Num() == 0 }},
		{"a text of 4 bytes of 5", "\x05\x00\x01\x00\x01", func(r *pack.Reader) bool { return r.Text() == "" }},
		{"a text of 254 bytes of 255", "\xff" + strings.Repeat("\x00", 254), func(r *pack.Reader) bool { return r.Text() == "" }},
		{"a text that has a length alone", "\x01", func(r *pack.Reader) bool { return r.Text() == "" }},
		{"a great number of 7 bytes", "\x01\x00\x02\x00\x00\x00\x01", func(r *pack.Reader) bool { return r.Wide() == 0 }},
		{"a great number of a number's bytes", "\x01\x02", func(r *pack.Reader) bool { return r.Wide() == 0 }},
	} {
		r := pack.From(c.bytes)
		if r.Bad() || r.End() {
			t.Errorf("%s, not read yet: Bad %v, End %v", c.what, r.Bad(), r.End())
		}
		if !c.read(r) {
			t.Errorf("%s: not nothing", c.what)
		}
		stays(t, c.what, r)
	}
}

// TestP301None: no bytes at all are an end, and no part but for it.
func TestP301None(t *testing.T) {
	for _, read := range []func(r *pack.Reader) bool{
		func(r *pack.Reader) bool { return r.Num() == 0 },
		func(r *pack.Reader) bool { return r.Text() == "" },
		func(r *pack.Reader) bool { return r.Wide() == 0 },
	} {
		r := pack.From("")
		if r.Bad() || !r.End() || r.Bad() || !r.End() {
			t.Errorf("of no bytes: Bad %v, End %v", r.Bad(), r.End())
		}
		if !read(r) {
			t.Error("of no bytes: not nothing")
		}
		stays(t, "of no bytes", r)
	}
}

// TestP301Nil: a nil one is Bad, and a zero one is as a nil one, since no sentence makes it ready.
func TestP301Nil(t *testing.T) {
	var none *pack.Reader
	stays(t, "nil", none)
	stays(t, "zero", &pack.Reader{})
	stays(t, "new", new(pack.Reader))
	for _, r := range []*pack.Reader{none, {}} {
		if r.Text() != "" || r.End() || !r.Bad() {
			t.Errorf("Text first: End %v, Bad %v", r.End(), r.Bad())
		}
	}
}

// TestP301Apart: Readers of the same bytes do not meet, and a fault of one is not the other's.
func TestP301Apart(t *testing.T) {
	b := num(t, 258).bytes + text(t, "ab").bytes
	one, other := pack.From(b), pack.From(b)
	if one.Num() != 258 || one.Text() != "ab" || !one.End() || one.Num() != 0 || !one.Bad() {
		t.Error("the one does not read it all")
	}
	if other.Bad() || other.End() || other.Num() != 258 || other.Text() != "ab" || !other.End() || other.Bad() {
		t.Error("the other one does not read it all")
	}
}
