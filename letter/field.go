package letter

import (
	"strings"

	"rosary/api"
	"rosary/pack"
)

// field is a place in a letter or a packet, with the form of its bytes.
type field interface {
	put() (string, bool)     // false, if what is there may not be
	get(r *pack.Reader) bool // false, if what was read may not be; what is not all there makes the Reader Bad
	some() bool              // is anything there but the zero value?
}

// write tells the bytes of fields; false, if one of them may not be.
func write(fields ...field) (string, bool) {
	var b strings.Builder
	for _, f := range fields {
		part, right := f.put()
		if !right {
			return "", false
		}
		b.WriteString(part)
	}
	return b.String(), true
}

// read reads fields, up to the first one that is not all there, or may not be.
func read(r *pack.Reader, fields ...field) bool {
	count := 0
fields:
	for _, f := range fields {
		switch {
		case !f.get(r), r.Bad():
			break fields
		default:
			count++
		}
	}
	return count == len(fields)
}

// readAll reads fields that are all the bytes there are.
func readAll(b string, fields ...field) bool {
	r := pack.From(b)
	return read(r, fields...) && r.End()
}

// number is a number of some kind, within its bounds.
type number[T ~int] struct {
	at          *T
	least, most T
}

// num makes a number's field.
func num[T ~int](at *T, least, most T) field {
	return number[T]{at, least, most}
}

func (n number[T]) right() bool {
	return *n.at >= n.least && *n.at <= n.most
}

func (n number[T]) put() (string, bool) {
	if !n.right() {
		return "", false
	}
	return pack.Num(int(*n.at))
}

func (n number[T]) get(r *pack.Reader) bool {
	*n.at = T(r.Num())
	return n.right()
}

func (n number[T]) some() bool {
	return *n.at != 0
}

// wide is a point of the ring.
type wide struct{ at *uint64 }

func (w wide) put() (string, bool) {
	return pack.Wide(*w.at), true
}

func (w wide) get(r *pack.Reader) bool {
	*w.at = r.Wide()
	return true
}

func (w wide) some() bool {
	return *w.at != 0
}

// text is one that has no more bytes than pack can write.
type text struct{ at *string }

func (t text) put() (string, bool) {
	return pack.Text(*t.at)
}

func (t text) get(r *pack.Reader) bool {
	*t.at = r.Text()
	return true
}

func (t text) some() bool {
	return *t.at != ""
}

// flag is a yes (1) or a no (0).
type flag struct{ at *bool }

func (f flag) put() (string, bool) {
	if *f.at {
		return pack.Num(1)
	}
	return pack.Num(0)
}

func (f flag) get(r *pack.Reader) bool {
	var v int
	right := num(&v, 0, 1).get(r)
	*f.at = v == 1
	return right
}

func (f flag) some() bool {
	return *f.at
}

// items is a list: how many, and each of them.
type items struct{ at *[]api.Item }

func (l items) put() (string, bool) {
	count := len(*l.at)
	fields := []field{num(&count, 0, maxItems)}
	// Where there are more, the count is not right, so nothing of them is written.
	for _, item := range (*l.at)[:min(count, maxItems)] {
		fields = append(fields, ofItem(&item)...)
	}
	return write(fields...)
}

func (l items) get(r *pack.Reader) bool {
	var count int
	right := num(&count, 0, maxItems).get(r)
	for right && len(*l.at) < count {
		var item api.Item
		right = read(r, ofItem(&item)...)
		*l.at = append(*l.at, item)
	}
	return right
}

func (l items) some() bool {
	return len(*l.at) > 0
}

// inside is the letter in a packet, which has one if its Seq is above 0.
type inside struct{ packet *api.Packet }

func (i inside) put() (string, bool) {
	if i.packet.Seq == 0 {
		return "", !i.some()
	}
	return Put(i.packet.Letter)
}

func (i inside) get(r *pack.Reader) bool {
	return i.packet.Seq == 0 || read(r, ofLetter(&i.packet.Letter)...)
}

func (i inside) some() bool {
	for _, f := range ofLetter(&i.packet.Letter) {
		if f.some() {
			return true
		}
	}
	return false
}
