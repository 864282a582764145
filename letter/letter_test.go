package letter_test

import (
	"math"
	"reflect"
	"slices"
	"strconv"
	"strings"
	"testing"

	"rosary/api"
	"rosary/letter"
)

// alike tells whether two letters are one; a list of none is as a nil one.
func alike(a, b api.Letter) bool {
	return reflect.DeepEqual(own(a), own(b))
}

// each does something with every change of each of the bases.
func each(do func(what string, l api.Letter, c change)) {
	for at, base := range bases() {
		for _, c := range changes() {
			l := own(base)
			c.do(&l)
			do("letter "+strconv.Itoa(at)+", "+c.what, l, c)
		}
	}
}

func TestP701Right(t *testing.T) {
	for _, base := range bases() {
		if !letter.Right(base) {
			t.Errorf("Right(%+v): false", base)
		}
	}
	each(func(what string, l api.Letter, c change) {
		if got := letter.Right(l); got != c.right {
			t.Errorf("%s: Right %t", what, got)
		}
	})
	// Everything but the Kind may be zero.
	if letter.Right(api.Letter{}) {
		t.Error("Right of the zero letter: true")
	}
	for kind := -20; kind < 300; kind++ {
		if got := letter.Right(api.Letter{Kind: kind}); got != (kind >= 1 && kind <= 16) {
			t.Errorf("Right of Kind %d: %t", kind, got)
		}
	}
}

// TestP701RightTwo: one part that may not be is enough, whatever is in the others.
func TestP701RightTwo(t *testing.T) {
	var some []change
	for at, c := range changes() {
		if at%7 == 0 && !strings.Contains(c.what, "65536") {
			some = append(some, c)
		}
	}
	for _, a := range some {
		for _, b := range some {
			l := whole()
			a.do(&l)
			b.do(&l)
			// What may not be is either not read back from the bytes, or is another one there.
			back, is := slow(spell(l))
			want := is && alike(back, l)
			if got := letter.Right(l); got != want {
				t.Errorf("%s, then %s: Right %t", a.what, b.what, got)
			}
		}
	}
}

func TestP701Put(t *testing.T) {
	for _, c := range []struct {
		what string
		l    api.Letter
		want string
	}{
		{"all zero but the Kind", api.Letter{Kind: 1}, "\x00\x01" + strings.Repeat("\x00", 47)},
		{"the last Kind", api.Letter{Kind: 16}, "\x00\x10" + strings.Repeat("\x00", 47)},
		{"something in each field", whole(), "" +
			"\x00\x0a\x00\x65\x00\x66\x75\x97\x75\x98\x75\x99\x00\x6a" +
			"\x11\x12\x13\x14\x15\x16\x17\x18\x21\x22\x23\x24\x25\x26\x27\x28" +
			"\x00\x03\x02ka\x02va\x02kb\x00\x00\x02vc" +
			"\x00\x6b\x03key\x05value\x02to\x75\x9c" +
			"\x00\x6d\x04told\x00\x02\x00\x00\x02kd\x02vd\x00\x01\x04next\x00\x6e"},
	} {
		if got, right := letter.Put(c.l); got != c.want || !right {
			t.Errorf("%s: %q, %t, not %q", c.what, got, right, c.want)
		}
		if got := spell(c.l); got != c.want {
			t.Errorf("%s: spelt %q, not %q", c.what, got, c.want)
		}
	}
	if b, right := letter.Put(greatest()); !right || len(b) != 49+5*255+80*(2+2*255) {
		t.Errorf("the greatest one: %d bytes, %t", len(b), right)
	}
	each(func(what string, l api.Letter, c change) {
		want := ""
		if c.right {
			want = spell(l)
		}
		if got, right := letter.Put(l); got != want || right != c.right {
			t.Errorf("%s: %.80q of %d, %t", what, got, len(got), right)
		}
	})
	if b, right := letter.Put(api.Letter{}); b != "" || right {
		t.Errorf("Put of the zero letter: %q, %t", b, right)
	}
}

// TestP701PutAlone: a letter with one field alone has zeros in all other places.
func TestP701PutAlone(t *testing.T) {
	zero, _ := letter.Put(api.Letter{Kind: 1})
	for _, c := range []struct {
		what string
		do   func(l *api.Letter)
		at   int    // of those that are all zero but the Kind, from here on
		was  int    // so many bytes
		are  string // are these
	}{
		{"From", func(l *api.Letter) { l.From = 7 }, 2, 2, "\x00\x07"},
		{"To", func(l *api.Letter) { l.To = 255 }, 4, 2, "\x00\xff"},
		{"Id", func(l *api.Letter) { l.Id = 258 }, 6, 2, "\x01\x02"},
		{"Epoch", func(l *api.Letter) { l.Epoch = 65535 }, 8, 2, "\xff\xff"},
		{"N", func(l *api.Letter) { l.N = 256 }, 10, 2, "\x01\x00"},
		{"Node", func(l *api.Letter) { l.Node = 9 }, 12, 2, "\x00\x09"},
		{"Arc.From", func(l *api.Letter) { l.Arc.From = 1<<63 + 2 }, 14, 8, "\x80\x00\x00\x00\x00\x00\x00\x02"},
		{"Arc.To", func(l *api.Letter) { l.Arc.To = 0x0102030405060708 }, 22, 8, "\x01\x02\x03\x04\x05\x06\x07\x08"},
		{"Items", func(l *api.Letter) { l.Items = []api.Item{{Key: "k", Value: "vw"}, {}} }, 30, 2, "\x00\x02\x01k\x02vw\x00\x00"},
		{"Ask.Op", func(l *api.Letter) { l.Ask.Op = 4 }, 32, 2, "\x00\x04"},
		{"Ask.Key", func(l *api.Letter) { l.Ask.Key = "k" }, 34, 1, "\x01k"},
		{"Ask.Value", func(l *api.Letter) { l.Ask.Value = "\x00" }, 35, 1, "\x01\x00"},
		{"Ask.To", func(l *api.Letter) { l.Ask.To = "\xff\xff" }, 36, 1, "\x02\xff\xff"},
		{"Ask.Most", func(l *api.Letter) { l.Ask.Most = 513 }, 37, 2, "\x02\x01"},
		{"Told.Errno", func(l *api.Letter) { l.Told.Errno = api.ErrElse }, 39, 2, "\x00\x08"},
		{"Told.Value", func(l *api.Letter) { l.Told.Value = "é" }, 41, 1, "\x02\xc3\xa9"},
		{"Told.Items", func(l *api.Letter) { l.Told.Items = []api.Item{{Value: "v"}} }, 42, 2, "\x00\x01\x00\x01v"},
		{"Told.More", func(l *api.Letter) { l.Told.More = true }, 44, 2, "\x00\x01"},
		{"Told.Next", func(l *api.Letter) { l.Told.Next = "n" }, 46, 1, "\x01n"},
		{"Told.Node", func(l *api.Letter) { l.Told.Node = 200 }, 47, 2, "\x00\xc8"},
	} {
		l := api.Letter{Kind: 1}
		c.do(&l)
		want := zero[:c.at] + c.are + zero[c.at+c.was:]
		got, right := letter.Put(l)
		if got != want || !right {
			t.Errorf("%s alone: %q, %t, not %q", c.what, got, right, want)
		}
		if back, is := letter.Get(want); !is || !alike(back, l) {
			t.Errorf("%s alone: back %+v, %t", c.what, back, is)
		}
	}
}

func TestP701Get(t *testing.T) {
	for _, base := range bases() {
		if l, is := letter.Get(spell(base)); !is || !reflect.DeepEqual(l, base) {
			t.Errorf("Get of %+v: %+v, %t", base, l, is)
		}
	}
	each(func(what string, l api.Letter, c change) {
		if !c.bytes { // its bytes tell something else
			return
		}
		back, is := letter.Get(spell(l))
		if is != c.right || is && !alike(back, l) || !is && !reflect.DeepEqual(back, api.Letter{}) {
			t.Errorf("%s: Get %.80q, %t", what, spell(back), is)
		}
	})
}

// none holds bytes that are no Put against Get.
func none(t *testing.T, what, b string) {
	t.Helper()
	if l, is := letter.Get(b); is || !reflect.DeepEqual(l, api.Letter{}) {
		t.Errorf("%s: %+v, %t", what, l, is)
	}
}

// TestP701GetCut: a Put is none when it ends anywhere ahead of its end, and with anything behind it.
func TestP701GetCut(t *testing.T) {
	none(t, "no bytes at all", "")
	for _, l := range bases() {
		b, _ := letter.Put(l)
		for at := range b {
			// The middle of the greatest one is many items that are alike.
			if at > 700 && at < len(b)-700 && at%59 != 0 {
				continue
			}
			none(t, "cut at "+strconv.Itoa(at), b[:at])
			none(t, "without the bytes up to "+strconv.Itoa(at+1), b[at+1:])
		}
		for _, more := range []string{"\x00", "\x01", "\xff", "\x00\x00", b} {
			none(t, "with more behind it", b+more)
			none(t, "with more ahead of it", more+b)
		}
	}
	for many := range 300 {
		none(t, strconv.Itoa(many)+" zeros", strings.Repeat("\x00", many))
		none(t, strconv.Itoa(many)+" of 255", strings.Repeat("\xff", many))
	}
}

// TestP701GetWrong: counts and parts that are greater than may be, though all their bytes are there.
func TestP701GetWrong(t *testing.T) {
	l := whole()
	tail := spell(l)[len(head(l))+2:]
	for _, more := range []int{2, 3, 255, 256, 257, 32768, 65535} {
		none(t, "More of "+strconv.Itoa(more), head(l)+num(more)+tail)
	}
	for more, want := range []bool{false, true} {
		if got, is := letter.Get(head(l) + num(more) + tail); !is || got.Told.More != want {
			t.Errorf("More of %d: %t, %t", more, got.Told.More, is)
		}
	}
	for _, f := range numbers() {
		for v := range 65536 {
			if v > 600 && v < 65000 && v%97 != 0 {
				continue
			}
			l := whole()
			f.set(&l, v)
			got, is := letter.Get(spell(l))
			if is != (v >= f.least && v <= f.most) || is && !alike(got, l) {
				t.Errorf("%s %d: %t", f.what, v, is)
			}
			if !is {
				none(t, f.what+" "+strconv.Itoa(v), spell(l))
			}
		}
	}
	for _, many := range []int{41, 42, 256, 1000, 65535} {
		l, told := whole(), whole()
		l.Items, told.Told.Items = make([]api.Item, many), make([]api.Item, many)
		none(t, strconv.Itoa(many)+" Items", spell(l))
		none(t, strconv.Itoa(many)+" Items of Told", spell(told))
	}
	// A count that says more, or less, than there are.
	zero := spell(api.Letter{Kind: 1})
	for _, count := range []int{1, 40, 41, 65535} {
		none(t, "a count without Items", zero[:30]+num(count)+zero[32:])
		none(t, "a count without Items of Told", zero[:42]+num(count)+zero[44:])
	}
	full := spell(greatest())
	for _, count := range []int{0, 1, 39} {
		none(t, "a count of fewer Items", full[:30]+num(count)+full[32:])
	}
}

// TestP701GetAny: whatever any one byte is turned into, Get knows the bytes that are a Put from those that are none.
func TestP701GetAny(t *testing.T) {
	few := api.Letter{Kind: 2, Told: api.Told{Items: []api.Item{{Key: "a"}}, Next: "b"}}
	for _, l := range []api.Letter{{Kind: 1}, few, whole()} {
		b := []byte(spell(l))
		for at := range b {
			was := b[at]
			for v := range 256 {
				b[at] = byte(v)
				anyBytes(t, string(b))
				anyBytes(t, string(b[:at])+string(b[at+1:]))               // one is missing
				anyBytes(t, string(b[:at])+string(rune(0))+string(b[at:])) // one is too many
			}
			b[at] = was
		}
	}
	for first := range 65536 {
		anyBytes(t, num(first)+spell(whole())[2:])
	}
}

// anyBytes holds Get of any bytes against a slow reading of them.
func anyBytes(t *testing.T, b string) {
	t.Helper()
	want, right := slow(b)
	got, is := letter.Get(b)
	if is != right || !reflect.DeepEqual(got, want) {
		t.Fatalf("Get(%q): %+v, %t, not %+v, %t", b, got, is, want, right)
	}
	if !is {
		return
	}
	if again, put := letter.Put(got); again != b || !put || !letter.Right(got) {
		t.Fatalf("Put of Get(%q): %q, %t", b, again, put)
	}
}

// TestP701Kept: what was handed in stays, and what was told is the caller's own.
func TestP701Kept(t *testing.T) {
	for _, base := range append(bases(), api.Letter{Kind: 17, Items: make([]api.Item, 41)}) {
		room := append(slices.Clone(base.Items), api.Item{Key: "behind", Value: "it"})
		toldRoom := append(slices.Clone(base.Told.Items), api.Item{Key: "behind", Value: "told"})
		l := base
		l.Items, l.Told.Items = room[:len(room)-1], toldRoom[:len(toldRoom)-1]
		was, wasRoom, wasTold := own(l), slices.Clone(room), slices.Clone(toldRoom)
		letter.Right(l)
		b, right := letter.Put(l)
		letter.PutPacket(api.Packet{Seq: 1, Letter: l})
		letter.PutPacket(api.Packet{Letter: l})
		if !alike(l, was) || !slices.Equal(room, wasRoom) || !slices.Equal(toldRoom, wasTold) {
			t.Errorf("a letter of Kind %d was written into", base.Kind)
		}
		if !right {
			continue
		}
		one, _ := letter.Get(b)
		other, _ := letter.Get(b)
		for i := range room { // the caller's list is not that of an answer
			room[i] = api.Item{Key: "mine"}
		}
		for i := range toldRoom {
			toldRoom[i] = api.Item{Key: "mine"}
		}
		if b != spell(was) || !alike(one, was) {
			t.Errorf("Kind %d: an answer shares with what was handed in", base.Kind)
		}
		clear(one.Items) // nor that of one answer another one's
		one.Items = append(one.Items, slices.Repeat([]api.Item{{Key: "mine"}}, 50)...)
		if !slices.Equal(one.Told.Items, was.Told.Items) || !alike(other, was) {
			t.Errorf("Kind %d: two lists share", base.Kind)
		}
		clear(one.Told.Items)
		_ = append(one.Told.Items, slices.Repeat([]api.Item{{Key: "mine"}}, 50)...)
		if later, is := letter.Get(b); !is || !alike(later, was) || !alike(other, was) {
			t.Errorf("Kind %d: what was told is told again", base.Kind)
		}
	}
}

// packets lists packets and whether they may be: each number at its edges and one beyond, with and without a letter.
func packets() []struct {
	p     api.Packet
	right bool
} {
	var all []struct {
		p     api.Packet
		right bool
	}
	small := []int{0, 1, 254, 255, -1, 256, 257, 65535, 65536, 65536 + 255, math.MaxInt, math.MinInt}
	great := []int{0, 1, 255, 256, 65534, 65535, -1, 65536, 65537, -65536, math.MaxInt, math.MinInt}
	add := func(p api.Packet) {
		right := p.From >= 0 && p.From <= 255 && p.To >= 0 && p.To <= 255 && p.Seq >= 0 && p.Seq <= 65535 && p.Ack >= 0 && p.Ack <= 65535
		all = append(all, struct {
			p     api.Packet
			right bool
		}{p, right})
	}
	for _, seq := range great {
		x := whole()
		if seq == 0 {
			x = api.Letter{}
		}
		add(api.Packet{From: 1, To: 2, Seq: seq, Ack: 4, Letter: x})
		for _, v := range great {
			add(api.Packet{Seq: seq, Ack: v, Letter: x})
		}
		for _, v := range small {
			add(api.Packet{From: v, Seq: seq, Letter: x})
			add(api.Packet{To: v, Seq: seq, Letter: x})
			add(api.Packet{From: v, To: v, Seq: seq, Ack: 65535, Letter: x})
		}
	}
	return all
}

// holdPacket holds PutPacket and GetPacket of a packet against what is wanted.
func holdPacket(t *testing.T, what string, p api.Packet, right bool) {
	t.Helper()
	want := ""
	if right {
		want = spellPacket(p)
	}
	b, is := letter.PutPacket(p)
	if b != want || is != right {
		t.Errorf("%s: PutPacket %.80q, %t, not %.80q", what, b, is, want)
	}
	back, was := letter.GetPacket(b)
	if was != right || right && (back.From != p.From || back.To != p.To || back.Seq != p.Seq || back.Ack != p.Ack || !alike(back.Letter, p.Letter)) {
		t.Errorf("%s: GetPacket %+v, %t", what, back, was)
	}
	if !was && !reflect.DeepEqual(back, api.Packet{}) {
		t.Errorf("%s: GetPacket %+v beside false", what, back)
	}
}

func TestP702PutPacket(t *testing.T) {
	one := spell(api.Letter{Kind: 1})
	for _, c := range []struct {
		p    api.Packet
		want string
	}{
		{api.Packet{}, "\x00\x00\x00\x00\x00\x00\x00\x00"},
		{api.Packet{From: 1, To: 2, Ack: 3}, "\x00\x01\x00\x02\x00\x00\x00\x03"},
		{api.Packet{From: 255, To: 255, Ack: 65535}, "\x00\xff\x00\xff\x00\x00\xff\xff"},
		{api.Packet{From: 1, To: 2, Seq: 258, Ack: 772, Letter: api.Letter{Kind: 1}}, "\x00\x01\x00\x02\x01\x02\x03\x04" + one},
		{api.Packet{From: 255, To: 255, Seq: 65535, Ack: 65535, Letter: greatest()}, "\x00\xff\x00\xff\xff\xff\xff\xff" + spell(greatest())},
	} {
		if got, is := letter.PutPacket(c.p); got != c.want || !is {
			t.Errorf("PutPacket(%.200q): %.80q, %t", spellPacket(c.p), got, is)
		}
	}
	for _, c := range packets() {
		holdPacket(t, "packet "+strconv.Itoa(c.p.From)+" "+strconv.Itoa(c.p.To)+" "+strconv.Itoa(c.p.Seq)+" "+strconv.Itoa(c.p.Ack), c.p, c.right)
	}
	each(func(what string, l api.Letter, c change) {
		holdPacket(t, what, api.Packet{From: 3, To: 4, Seq: 1, Ack: 2, Letter: l}, c.right)
		zero := reflect.DeepEqual(l, api.Letter{})
		holdPacket(t, what+", no Seq", api.Packet{From: 3, To: 4, Ack: 2, Letter: l}, zero)
		holdPacket(t, what+", Seq below 0", api.Packet{Seq: -1, Letter: l}, false)
	})
}

// TestP702PutPacketZero: with a Seq of 0 the letter is the zero one, and none that has anything in any one field.
func TestP702PutPacketZero(t *testing.T) {
	for _, zero := range []api.Letter{{}, {Items: []api.Item{}}, {Told: api.Told{Items: []api.Item{}}}, {Items: make([]api.Item, 0, 9)}} {
		holdPacket(t, "the zero letter", api.Packet{From: 1, Ack: 9, Letter: zero}, true)
		holdPacket(t, "the zero letter, Seq 1", api.Packet{From: 1, Seq: 1, Ack: 9, Letter: zero}, false)
	}
	for _, c := range changes() {
		var l api.Letter
		c.do(&l)
		zero := reflect.DeepEqual(own(l), api.Letter{})
		holdPacket(t, c.what+" alone", api.Packet{From: 1, To: 2, Ack: 3, Letter: l}, zero)
		kind := strings.HasPrefix(c.what, "Kind ")
		holdPacket(t, c.what+" alone, Seq 5", api.Packet{From: 1, To: 2, Seq: 5, Ack: 3, Letter: l}, kind && c.right)
	}
}

// nonePacket holds bytes that are no PutPacket against GetPacket.
func nonePacket(t *testing.T, what, b string) {
	t.Helper()
	if p, is := letter.GetPacket(b); is || !reflect.DeepEqual(p, api.Packet{}) {
		t.Errorf("%s: %+v, %t", what, p, is)
	}
}

func TestP702GetPacket(t *testing.T) {
	nonePacket(t, "no bytes at all", "")
	for _, p := range []api.Packet{{}, {From: 255, To: 255, Ack: 65535}, {Seq: 1, Letter: api.Letter{Kind: 1}}, {From: 1, To: 2, Seq: 65535, Ack: 4, Letter: whole()}} {
		b := spellPacket(p)
		if got, is := letter.GetPacket(b); !is || !reflect.DeepEqual(got, p) {
			t.Errorf("GetPacket(%q): %+v, %t", b, got, is)
		}
		for at := range b {
			nonePacket(t, "cut at "+strconv.Itoa(at), b[:at])
		}
		for _, more := range []string{"\x00", "\x01", "\xff", "\x00\x00", b, spell(whole())} {
			nonePacket(t, "with more behind it", b+more)
		}
	}
	for _, c := range packets() {
		if spelt := c.p; min(spelt.From, spelt.To, spelt.Seq, spelt.Ack) >= 0 && max(spelt.From, spelt.To, spelt.Seq, spelt.Ack) <= 65535 {
			got, is := letter.GetPacket(spellPacket(spelt))
			if is != c.right || is && !reflect.DeepEqual(got, spelt) || !is && !reflect.DeepEqual(got, api.Packet{}) {
				t.Errorf("GetPacket of %d %d %d %d: %t", spelt.From, spelt.To, spelt.Seq, spelt.Ack, is)
			}
		}
	}
}

// TestP702GetPacketLetter: a letter inside is there if the Seq is above 0, and is one.
func TestP702GetPacketLetter(t *testing.T) {
	with, without := "\x00\x01\x00\x02\x00\x03\x00\x04", "\x00\x01\x00\x02\x00\x00\x00\x04"
	nonePacket(t, "a Seq, and no letter", with)
	nonePacket(t, "a Seq, and the zero letter", with+spell(api.Letter{}))
	nonePacket(t, "no Seq, and the zero letter", without+spell(api.Letter{}))
	nonePacket(t, "no Seq, and a letter", without+spell(whole()))
	nonePacket(t, "a letter alone", spell(whole()))
	each(func(what string, l api.Letter, c change) {
		if !c.bytes {
			return
		}
		got, is := letter.GetPacket(with + spell(l))
		if is != c.right || is && (got.Seq != 3 || !alike(got.Letter, l)) || !is && !reflect.DeepEqual(got, api.Packet{}) {
			t.Errorf("%s: GetPacket %t", what, is)
		}
		nonePacket(t, what+", no Seq", without+spell(l))
	})
	b := []byte(with + spell(whole()))
	for at := range b {
		was := b[at]
		for v := range 256 {
			b[at] = byte(v)
			p, is := letter.GetPacket(string(b))
			_, inside := slow(string(b[8:]))
			if right := inside && b[0] == 0 && b[2] == 0 && (b[4] != 0 || b[5] != 0); is != right {
				t.Fatalf("GetPacket(%q): %t", b, is)
			}
			if again, put := letter.PutPacket(p); is && (again != string(b) || !put) {
				t.Fatalf("PutPacket of GetPacket(%q): %q, %t", b, again, put)
			}
		}
		b[at] = was
	}
}

// TestP702Kept: lists of packets that were told are the caller's own.
func TestP702Kept(t *testing.T) {
	p := api.Packet{From: 1, Seq: 2, Letter: whole()}
	b, _ := letter.PutPacket(p)
	one, _ := letter.GetPacket(b)
	other, _ := letter.GetPacket(b)
	clear(p.Letter.Items)
	clear(p.Letter.Told.Items)
	clear(one.Letter.Items)
	_ = append(one.Letter.Items, slices.Repeat([]api.Item{{Key: "mine"}}, 50)...)
	if !slices.Equal(one.Letter.Told.Items, whole().Told.Items) {
		t.Error("two lists of a packet share")
	}
	clear(one.Letter.Told.Items)
	later, _ := letter.GetPacket(b)
	want := api.Packet{From: 1, Seq: 2, Letter: whole()}
	if !reflect.DeepEqual(other, want) || !reflect.DeepEqual(later, want) || b != spellPacket(want) {
		t.Error("two answers share")
	}
}

func TestP702Name(t *testing.T) {
	for kind, want := range map[int]string{
		api.KindAsk: "ask", api.KindTold: "told", api.KindLoad: "load", api.KindLoads: "loads",
		api.KindLock: "lock", api.KindLocked: "locked", api.KindUnlock: "unlock", api.KindGive: "give",
		api.KindGave: "gave", api.KindOffer: "offer", api.KindAccept: "accept", api.KindChunk: "chunk",
		api.KindGot: "got", api.KindCommit: "commit", api.KindDone: "done", api.KindDrop: "drop",
		0: "", -1: "", -2: "", -16: "", 17: "", 18: "", 255: "", 256: "", 257: "", 1 << 32: "", 1<<32 + 1: "",
		math.MaxInt: "", math.MinInt: "", math.MinInt + 1: "",
	} {
		if got := letter.Name(kind); got != want {
			t.Errorf("Name(%d): %q, not %q", kind, got, want)
		}
	}
	var all []string
	for kind := -3; kind < 300; kind++ {
		if name := letter.Name(kind); name != "" {
			all = append(all, name)
		}
		if letter.Right(api.Letter{Kind: kind}) != (letter.Name(kind) != "") {
			t.Errorf("a letter of Kind %d, Name %q", kind, letter.Name(kind))
		}
	}
	if got, want := strings.Join(all, " "), "ask told load loads lock locked unlock give gave offer accept chunk got commit done drop"; got != want {
		t.Errorf("names %q", got)
	}
}
