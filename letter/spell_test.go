package letter_test

import (
	"math"
	"slices"
	"strconv"
	"strings"

	"rosary/api"
)

// What the tests hold the package against: the document's words, spelt out by hand, without package pack.

// num spells a number; of what is too great for its bytes they tell the last part.
func num(v int) string {
	return string([]byte{byte(v >> 8), byte(v)})
}

// wide spells a point.
func wide(v uint64) string {
	return num(int(v>>48)) + num(int(v>>32)) + num(int(v>>16)) + num(int(v))
}

// text spells a text; the length of one that is too long is its last part, too.
func text(s string) string {
	return string([]byte{byte(len(s))}) + s
}

// list spells items.
func list(l []api.Item) string {
	var b strings.Builder
	b.WriteString(num(len(l)))
	for _, item := range l {
		b.WriteString(text(item.Key) + text(item.Value))
	}
	return b.String()
}

// spell spells a letter, right or not.
func spell(l api.Letter) string {
	more := 0
	if l.Told.More {
		more = 1
	}
	return head(l) + num(more) + text(l.Told.Next) + num(l.Told.Node)
}

// head spells it up to its More.
func head(l api.Letter) string {
	return num(l.Kind) + num(l.From) + num(l.To) + num(l.Id) + num(l.Epoch) + num(l.N) + num(l.Node) +
		wide(l.Arc.From) + wide(l.Arc.To) + list(l.Items) +
		num(l.Ask.Op) + text(l.Ask.Key) + text(l.Ask.Value) + text(l.Ask.To) + num(l.Ask.Most) +
		num(int(l.Told.Errno)) + text(l.Told.Value) + list(l.Told.Items)
}

// spellPacket spells a packet and its letter, right or not.
func spellPacket(p api.Packet) string {
	b := num(p.From) + num(p.To) + num(p.Seq) + num(p.Ack)
	if p.Seq != 0 {
		b += spell(p.Letter)
	}
	return b
}

// slow reads a letter byte by byte, and tells whether all of b is one that is right.
func slow(b string) (l api.Letter, right bool) {
	right = true
	num := func(least, most int) int {
		if len(b) < 2 {
			right, b = false, ""
			return 0
		}
		v := int(b[0])*256 + int(b[1])
		b = b[2:]
		right = right && v >= least && v <= most
		return v
	}
	point := func() (v uint64) {
		for range 4 {
			v = v<<16 + uint64(num(0, 65535))
		}
		return v
	}
	text := func() string {
		if len(b) < 1 || len(b) < 1+int(b[0]) {
			right, b = false, ""
			return ""
		}
		s := b[1 : 1+int(b[0])]
		b = b[1+int(b[0]):]
		return s
	}
	items := func() (l []api.Item) {
		for many := num(0, 40); right && len(l) < many; {
			l = append(l, api.Item{Key: text(), Value: text()})
		}
		return l
	}
	l.Kind, l.From, l.To = num(1, 16), num(0, 255), num(0, 255)
	l.Id, l.Epoch, l.N, l.Node = num(0, 65535), num(0, 65535), num(0, 65535), num(0, 255)
	l.Arc.From, l.Arc.To = point(), point()
	l.Items = items()
	l.Ask.Op, l.Ask.Key, l.Ask.Value, l.Ask.To, l.Ask.Most = num(0, 255), text(), text(), text(), num(0, 65535)
	l.Told.Errno, l.Told.Value = api.Errno(num(0, 255)), text()
	l.Told.Items = items()
	l.Told.More, l.Told.Next, l.Told.Node = num(0, 1) == 1, text(), num(0, 255)
	if !right || b != "" {
		return api.Letter{}, false
	}
	return l, true
}

// change sets one part of a letter.
type change struct {
	what  string
	do    func(l *api.Letter)
	right bool // may it be?
	bytes bool // do its bytes, as they are spelt, tell it?
}

// numbers lists a letter's numbers, and their bounds.
func numbers() []struct {
	what        string
	set         func(l *api.Letter, v int)
	least, most int
} {
	return []struct {
		what        string
		set         func(l *api.Letter, v int)
		least, most int
	}{
		{"Kind", func(l *api.Letter, v int) { l.Kind = v }, 1, 16},
		{"From", func(l *api.Letter, v int) { l.From = v }, 0, 255},
		{"To", func(l *api.Letter, v int) { l.To = v }, 0, 255},
		{"Id", func(l *api.Letter, v int) { l.Id = v }, 0, 65535},
		{"Epoch", func(l *api.Letter, v int) { l.Epoch = v }, 0, 65535},
		{"N", func(l *api.Letter, v int) { l.N = v }, 0, 65535},
		{"Node", func(l *api.Letter, v int) { l.Node = v }, 0, 255},
		{"Ask.Op", func(l *api.Letter, v int) { l.Ask.Op = v }, 0, 255},
		{"Ask.Most", func(l *api.Letter, v int) { l.Ask.Most = v }, 0, 65535},
		{"Told.Errno", func(l *api.Letter, v int) { l.Told.Errno = api.Errno(v) }, 0, 255},
		{"Told.Node", func(l *api.Letter, v int) { l.Told.Node = v }, 0, 255},
	}
}

// texts lists a letter's texts; of an item at the first and at the last place there may be, too.
func texts() map[string]func(l *api.Letter, s string) {
	items := func(first, last api.Item) []api.Item {
		l := make([]api.Item, 40)
		l[0], l[39] = first, last
		return l
	}
	return map[string]func(l *api.Letter, s string){
		"Ask.Key":          func(l *api.Letter, s string) { l.Ask.Key = s },
		"Ask.Value":        func(l *api.Letter, s string) { l.Ask.Value = s },
		"Ask.To":           func(l *api.Letter, s string) { l.Ask.To = s },
		"Told.Value":       func(l *api.Letter, s string) { l.Told.Value = s },
		"Told.Next":        func(l *api.Letter, s string) { l.Told.Next = s },
		"Item.Key":         func(l *api.Letter, s string) { l.Items = []api.Item{{Key: s}} },
		"Item.Value":       func(l *api.Letter, s string) { l.Items = []api.Item{{Value: s}} },
		"first Item.Key":   func(l *api.Letter, s string) { l.Items = items(api.Item{Key: s}, api.Item{}) },
		"last Item.Key":    func(l *api.Letter, s string) { l.Items = items(api.Item{}, api.Item{Key: s}) },
		"last Item.Value":  func(l *api.Letter, s string) { l.Items = items(api.Item{}, api.Item{Value: s}) },
		"Told Item.Key":    func(l *api.Letter, s string) { l.Told.Items = []api.Item{{Key: s}} },
		"Told Item.Value":  func(l *api.Letter, s string) { l.Told.Items = []api.Item{{Value: s}} },
		"first Told Value": func(l *api.Letter, s string) { l.Told.Items = items(api.Item{Value: s}, api.Item{}) },
		"last Told Key":    func(l *api.Letter, s string) { l.Told.Items = items(api.Item{}, api.Item{Key: s}) },
		"last Told Value":  func(l *api.Letter, s string) { l.Told.Items = items(api.Item{}, api.Item{Value: s}) },
	}
}

// changes lists each field of a letter at its least and its greatest, one beyond either, some between and some far off.
func changes() []change {
	var all []change
	for _, f := range numbers() {
		for _, v := range []int{
			f.least, f.least + 1, f.most / 2, f.most - 1, f.most, f.least - 1, f.most + 1, f.most + 2,
			255, 256, 65535, 65536, 65536 + f.most, f.least - 65536, math.MaxInt, math.MinInt, math.MinInt + 1,
		} {
			all = append(all, change{f.what + " " + strconv.Itoa(v), func(l *api.Letter) { f.set(l, v) }, v >= f.least && v <= f.most, v >= 0 && v <= 65535})
		}
	}
	for what, set := range texts() {
		for _, s := range []string{
			"", "a", "\x00", "é", "\xff\xfe\x00", "\x01a\x00\x28", strings.Repeat("x", 128), strings.Repeat("x", 254), strings.Repeat("x", 255), strings.Repeat("\xff", 255),
			strings.Repeat("x", 256), strings.Repeat("\x00", 257), strings.Repeat("é", 128), strings.Repeat("x", 512), strings.Repeat("x", 65536),
		} {
			all = append(all, change{what + " of " + strconv.Itoa(len(s)) + " bytes", func(l *api.Letter) { set(l, s) }, len(s) <= 255, len(s) <= 255})
		}
	}
	for _, many := range []int{0, 1, 2, 39, 40, 41, 42, 255, 256, 257, 65535, 65536, 65536 + 40} {
		what := strconv.Itoa(many) + " Items"
		all = append(all,
			change{what, func(l *api.Letter) { l.Items = make([]api.Item, many) }, many <= 40, many <= 65535},
			change{what + " of Told", func(l *api.Letter) { l.Told.Items = make([]api.Item, many) }, many <= 40, many <= 65535})
	}
	for _, x := range []uint64{0, 1, 258, 1 << 40, 0x0102030405060708, 1<<63 - 1, 1 << 63, math.MaxUint64} {
		what := strconv.FormatUint(x, 16)
		all = append(all,
			change{"Arc.From " + what, func(l *api.Letter) { l.Arc.From = x }, true, true},
			change{"Arc.To " + what, func(l *api.Letter) { l.Arc.To = x }, true, true})
	}
	return append(all,
		change{"More", func(l *api.Letter) { l.Told.More = true }, true, true},
		change{"no More", func(l *api.Letter) { l.Told.More = false }, true, true},
		change{"no lists", func(l *api.Letter) { l.Items, l.Told.Items = nil, nil }, true, true},
		change{"a full Item", func(l *api.Letter) {
			l.Items = []api.Item{{Key: strings.Repeat("k", 255), Value: strings.Repeat("v", 255)}}
			l.Told.Items = slices.Clone(l.Items)
		}, true, true})
}

// whole makes a letter that has something in each field, and in no two the same.
func whole() api.Letter {
	return api.Letter{
		Kind: api.KindOffer, From: 101, To: 102, Id: 30103, Epoch: 30104, N: 30105, Node: 106,
		Arc:   api.Arc{From: 0x1112131415161718, To: 0x2122232425262728},
		Items: []api.Item{{Key: "ka", Value: "va"}, {Key: "kb"}, {Value: "vc"}},
		Ask:   api.Ask{Op: 107, Key: "key", Value: "value", To: "to", Most: 30108},
		Told: api.Told{
			Errno: 109, Value: "told", Items: []api.Item{{}, {Key: "kd", Value: "vd"}}, More: true, Next: "next", Node: 110,
		},
	}
}

// greatest makes the letter that has the most bytes of all.
func greatest() api.Letter {
	long := func(b string) string { return strings.Repeat(b, 255) }
	l := api.Letter{
		Kind: 16, From: 255, To: 255, Id: 65535, Epoch: 65535, N: 65535, Node: 255,
		Arc:  api.Arc{From: math.MaxUint64, To: math.MaxUint64},
		Ask:  api.Ask{Op: 255, Key: long("a"), Value: long("b"), To: long("c"), Most: 65535},
		Told: api.Told{Errno: 255, Value: long("d"), More: true, Next: long("e"), Node: 255},
	}
	for range 40 {
		l.Items = append(l.Items, api.Item{Key: long("f"), Value: long("g")})
		l.Told.Items = append(l.Told.Items, api.Item{Key: long("h"), Value: long("i")})
	}
	return l
}

// bases lists letters that may be: the least one, one with something in each field, the greatest.
func bases() []api.Letter {
	return []api.Letter{{Kind: 1}, whole(), greatest()}
}

// own makes a letter alike that shares no list with it; a list of none is a nil one.
func own(l api.Letter) api.Letter {
	l.Items = append([]api.Item(nil), l.Items...)
	l.Told.Items = append([]api.Item(nil), l.Told.Items...)
	return l
}
