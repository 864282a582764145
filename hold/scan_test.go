package hold_test

import (
	"math"
	"strconv"
	"strings"
	"testing"

	"rosary/api"
	"rosary/hold"
)

// scans holds a scan against the keys, and the key at which it goes on: "" if it does not.
func scans(t *testing.T, what string, h *hold.Hold, k, to string, most int, all, next string) {
	t.Helper()
	tells(t, what, h, api.Ask{Op: api.Scan, Key: k, To: to, Most: most, Value: long("v", 17)}, api.Told{Items: items(all), More: next != "", Next: next})
}

// scansNot holds one that may not be against its error.
func scansNot(t *testing.T, what string, h *hold.Hold, k, to string, most int, want api.Errno) {
	t.Helper()
	told := api.Told{Errno: want}
	if want == api.ErrElse {
		told.Node = -1
	}
	tells(t, what, h, api.Ask{Op: api.Scan, Key: k, To: to, Most: most}, told)
}

// Most is from 0 on up to 40; that is told ahead of what is wrong with the key.
func TestP1402ScanMost(t *testing.T) {
	h := hold.New(node, 100)
	h.Own(span("b-m"), 1)
	var all []string
	for n := range 50 {
		k := "c" + strconv.Itoa(10+n)
		all = append(all, k)
		put(h, k, k)
	}
	for _, most := range []int{-1, 41, 42, 200, math.MinInt, math.MaxInt} {
		for _, k := range []string{"c", "", "z", long("c", 16), long("c", 17)} {
			scansNot(t, "Most "+strconv.Itoa(most), h, k, "", most, api.ErrArg)
		}
	}
	for _, most := range []int{0, 1, 2, 39, 40} {
		scans(t, "Most "+strconv.Itoa(most), h, "c", "", most, strings.Join(all[:most], " "), all[most])
	}
}

// A key may have no bytes, up to MaxKey of them.
func TestP1402ScanKey(t *testing.T) {
	h := fill(t, owns(t, "-m@1"), "a c")
	scans(t, "no Key", h, "", "", 9, "a c", "m")
	scans(t, "a byte 0", h, "\x00", "", 9, "a c", "m")
	scans(t, "the most bytes", h, long("a", 16), "", 9, "c", "m")
	scansNot(t, "one more", h, long("a", 17), "", 9, api.ErrKey)
	scansNot(t, "one more, where nothing is owned", h, long("z", 17), "", 9, api.ErrKey)
	scans(t, "a long To", h, "a", long("b", 99), 9, "a", "")
	beside := fill(t, owns(t, "b-m@1"), "c")
	scansNot(t, "no Key, 0 is not owned", beside, "", "", 9, api.ErrElse)
	scansNot(t, "no Key, 0 is not owned, To is at Key", beside, "", "", 0, api.ErrElse)
}

// It goes from Key on, up to To.
func TestP1402ScanRange(t *testing.T) {
	h := fill(t, owns(t, "b-m@1"), "b c ca d dx e")
	for _, c := range []struct{ what, key, to, all, next string }{
		{"no To", "b", "", "b c ca d dx e", "m"},
		{"a key that is there", "c", "", "c ca d dx e", "m"},
		{"a key that is not", "cb", "", "d dx e", "m"},
		{"just behind a key", "c\x00", "", "ca d dx e", "m"},
		{"up to one that is there", "b", "d", "b c ca", ""},
		{"up to one that is not", "b", "db", "b c ca d", ""},
		{"up to just behind one", "b", "d\x00", "b c ca d", ""},
		{"a range with none", "db", "dw", "", ""},
		{"To at Key", "c", "c", "", ""},
		{"To just behind Key", "c", "c\x00", "c", ""},
		{"To ahead of Key", "d", "c", "", ""},
		{"To ahead of all", "d", "a", "", ""},
		{"To a byte 0", "d", "\x00", "", ""},
		{"To at the piece's end", "d", "m", "d dx e", ""},
		{"To just ahead of it", "d", "lzz", "d dx e", ""},
		{"To just behind it", "d", "m\x00", "d dx e", "m"},
		{"To far behind it", "d", "z", "d dx e", "m"},
		{"behind all", "f", "", "", "m"},
		{"behind all, up to ahead of the end", "f", "g", "", ""},
		{"the last point", "lzzz", "", "", "m"},
	} {
		scans(t, c.what, h, c.key, c.to, 40, c.all, c.next)
	}
	// What ends the range may lie where nothing is owned; where it begins may not.
	scansNot(t, "from ahead of it", h, "a", "d", 9, api.ErrElse)
	scansNot(t, "from its end on", h, "m", "", 9, api.ErrElse)
	scansNot(t, "from its end on, To ahead of that", h, "m", "c", 9, api.ErrElse)
}

// No more than Most; More tells whether some were left, Next the first of them.
func TestP1402ScanLeft(t *testing.T) {
	h := fill(t, owns(t, "b-m@1"), "b c d e")
	for _, c := range []struct {
		what, to  string
		most      int
		all, next string
	}{
		{"none", "e", 0, "", "b"},
		{"one", "e", 1, "b", "c"},
		{"one fewer than there are", "e", 2, "b c", "d"},
		{"as many as there are", "e", 3, "b c d", ""},
		{"more than there are", "e", 4, "b c d", ""},
		{"all but one of all", "", 3, "b c d", "e"},
		{"as many as there are of all", "", 4, "b c d e", "m"},
		{"more than there are of all", "", 5, "b c d e", "m"},
		{"none of all", "", 0, "", "b"},
		{"as many as there are, up to the end", "m", 4, "b c d e", ""},
		{"as many as there are, up to behind the end", "n", 4, "b c d e", "m"},
		{"none, To at Key", "b", 0, "", ""},
		{"none, To ahead of Key", "a", 0, "", ""},
	} {
		scans(t, c.what, h, "b", c.to, c.most, c.all, c.next)
	}
	scans(t, "none of none", h, "f", "", 0, "", "m")
	scans(t, "none of none, up to a To", h, "f", "g", 0, "", "")
}

// It goes over all that is owned in one piece, of whatever epochs, and over no gap.
func TestP1402ScanPieces(t *testing.T) {
	h := fill(t, owns(t, "b-d@1 d-f@4 f-h@2 k-m@2 m-p@3"), "b c d e g k o")
	for _, c := range []struct{ what, key, to, all, next string }{
		{"three side by side", "b", "", "b c d e g", "h"},
		{"from the middle one on", "d", "", "d e g", "h"},
		{"from the last one on", "f", "", "g", "h"},
		{"up to within the gap", "b", "i", "b c d e g", "h"},
		{"up to the gap", "b", "h", "b c d e g", ""},
		{"up to where one ends", "b", "d", "b c", ""},
		{"up to beyond the gap", "b", "l", "b c d e g", "h"},
		{"behind the gap", "k", "", "k o", "p"},
		{"from where two meet on", "m", "", "o", "p"},
	} {
		scans(t, c.what, h, c.key, c.to, 40, c.all, c.next)
	}
	scans(t, "just as many as Most ahead of the gap", h, "b", "", 5, "b c d e g", "h")
	scans(t, "one more than Most", h, "b", "", 4, "b c d e", "g")
	scansNot(t, "in the gap", h, "h", "", 9, api.ErrElse)
}

// The end of the ring is the end: there it goes on nowhere, whatever is owned from 0 on.
func TestP1402ScanEnd(t *testing.T) {
	for _, c := range []struct{ what, owned string }{
		{"the whole ring", "-@1"}, {"the whole ring from k on", "k-k@1"}, {"up to the end", "k-@1 a-f@2"},
		{"over the end", "k-f@1"}, {"in two over the end", "k-@1 -f@1"}, {"in two over the end, unlike epochs", "k-@1 -f@2"}, {"in two, one over the end", "k-x@1 x-f@2"},
	} {
		h := fill(t, owns(t, c.owned), "a b c x z \xff\xff\xff\xff\xff\xff\xff\xff\xff")
		last := "\xff\xff\xff\xff\xff\xff\xff\xff\xff"
		scans(t, c.what, h, "k", "", 9, "x z "+last, "")
		scans(t, c.what+", as many as Most", h, "k", "", 3, "x z "+last, "")
		scans(t, c.what+", one more than Most", h, "k", "", 2, "x z", last)
		scans(t, c.what+", a To", h, "k", "y", 9, "x", "")
		scans(t, c.what+", a To ahead of Key", h, "k", "b", 9, "", "")
		scans(t, c.what+", a To of the greatest bytes", h, "k", long("\xff", 17), 9, "x z "+last, "")
		scans(t, c.what+", the last point", h, last+"\x00", "", 9, "", "")
	}
	over := fill(t, owns(t, "k-f@1"), "a x")
	scans(t, "from 0 on", over, "", "", 9, "a", "f")
	scans(t, "from b on", over, "b", "", 9, "", "f")
	all := fill(t, owns(t, "m-m@1"), "a x")
	scans(t, "the whole ring from 0 on", all, "", "", 9, "a x", "")
}

// Where something is frozen a scan ends, as where nothing is owned.
func TestP1402ScanFrozen(t *testing.T) {
	h := fill(t, owns(t, "b-f@1 f-m@2"), "b c d e g j")
	freezes(t, "d-h", h, span("d-h"), "d e g", 2)
	for _, c := range []struct{ what, key, to, all, next string }{
		{"up to it", "b", "", "b c", "d"},
		{"To within it", "b", "e", "b c", "d"},
		{"To at it", "b", "d", "b c", ""},
		{"To just behind its first", "b", "d\x00", "b c", "d"},
		{"To ahead of it", "b", "cx", "b c", ""},
		{"To behind it", "b", "k", "b c", "d"},
		{"none up to it", "cx", "", "", "d"},
		{"from its To on", "h", "", "j", "m"},
	} {
		scans(t, c.what, h, c.key, c.to, 40, c.all, c.next)
	}
	scans(t, "just as many as Most", h, "b", "", 2, "b c", "d")
	scans(t, "one more than Most", h, "b", "", 1, "b", "c")
	scans(t, "none", h, "b", "", 0, "", "b")
	for _, k := range []string{"d", "e", "gzz"} {
		scansNot(t, "frozen itself", h, k, "", 9, api.ErrBusy)
		scansNot(t, "frozen itself, To ahead of Key", h, k, "b", 9, api.ErrBusy)
	}
	scansNot(t, "not owned", h, "m", "", 9, api.ErrElse)
	h.Thaw()
	scans(t, "behind a Thaw", h, "b", "", 40, "b c d e g j", "m")
}

// What is frozen may lie over the end, at 0, or be all.
func TestP1402ScanFrozenOver(t *testing.T) {
	h := fill(t, owns(t, "-@1"), "a b c x z")
	h.Freeze(span("x-b"))
	scans(t, "over the end", h, "b", "", 9, "b c", "x")
	scansNot(t, "over the end, from 0 on", h, "", "", 9, api.ErrBusy)
	h.Thaw()
	h.Freeze(span("-b"))
	scans(t, "from 0 on", h, "b", "", 9, "b c x z", "")
	scansNot(t, "from 0 on, no Key", h, "", "", 9, api.ErrBusy)
	h.Thaw()
	h.Freeze(span("b-"))
	scans(t, "up to the end", h, "", "", 9, "a", "b")
	h.Thaw()
	h.Freeze(span("b-c"))
	scans(t, "behind it", h, "c", "", 9, "c x z", "")
	scans(t, "ahead of it", h, "", "", 9, "a", "b")
	h.Thaw()
	h.Freeze(span("c-c"))
	scansNot(t, "all", h, "c", "", 9, api.ErrBusy)
	scansNot(t, "all", h, "d", "", 9, api.ErrBusy)
}

// What is frozen behind a gap is not what ends it.
func TestP1402ScanFrozenBehind(t *testing.T) {
	h := fill(t, owns(t, "b-f@1 k-m@2"), "b c k")
	h.Freeze(span("k-m"))
	scans(t, "the gap comes first", h, "b", "", 9, "b c", "f")
	h.Thaw()
	h.Freeze(span("b-c"))
	scans(t, "behind it", h, "c", "", 9, "c", "f")
	scans(t, "behind the gap", h, "k", "", 9, "k", "m")
}

// Next of a point of many bytes is the least key there.
func TestP1402ScanNext(t *testing.T) {
	for _, c := range []struct {
		to   uint64
		next string
	}{
		{at("c"), "c"}, {at("c") + 1, "c\x00\x00\x00\x00\x00\x00\x01"}, {at("c") + 1<<8, "c\x00\x00\x00\x00\x00\x01"}, {0x6364656667686970, "cdefghip"}, {end, long("\xff", 8)}, {1<<63 + 1<<48, "\x80\x01"},
	} {
		h := hold.New(node, 9)
		h.Own(from(at("b"), c.to), 1)
		scans(t, "no To", h, "b", "", 9, "", c.next)
		scans(t, "To at it", h, "b", c.next, 9, "", "")
		scans(t, "To just behind it", h, "b", c.next+"\x00", 9, "", c.next)
	}
	one := hold.New(node, 9)
	one.Own(from(0, 1), 1)
	scans(t, "the point 0 alone", one, "", "", 9, "", "\x00\x00\x00\x00\x00\x00\x00\x01")
}
