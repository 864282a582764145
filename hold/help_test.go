package hold_test

import (
	"math"
	"slices"
	"strconv"
	"strings"
	"testing"

	"rosary/api"
	"rosary/hold"
)

const (
	end  = math.MaxUint64 // the last point of the ring
	node = 7              // the node of the holds that the tests make
)

// at is the point of a key of one letter; 0 of none.
func at(letter string) uint64 {
	if letter == "" {
		return 0
	}
	return uint64(letter[0]) << 56
}

// from makes an arc.
func from(from, to uint64) api.Arc { return api.Arc{From: from, To: to} }

// span makes an arc from a letter's point up to another one's: "c-f", "c-" up to the end.
func span(letters string) api.Arc {
	first, last, _ := strings.Cut(letters, "-")
	return from(at(first), at(last))
}

// owns makes a hold, with room enough, of arcs: "c-f@2 f-k@3".
func owns(t *testing.T, arcs string) *hold.Hold {
	t.Helper()
	h := hold.New(node, 100)
	for _, part := range strings.Fields(arcs) {
		letters, epoch, _ := strings.Cut(part, "@")
		n, _ := strconv.Atoi(epoch)
		if !h.Own(span(letters), n) {
			t.Fatalf("Own(%s) is false", part)
		}
	}
	return h
}

// fill puts keys, each of which is its value too.
func fill(t *testing.T, h *hold.Hold, keys string) *hold.Hold {
	t.Helper()
	for _, k := range strings.Fields(keys) {
		if e := put(h, k, k); e != api.OK {
			t.Fatalf("Put %q: %d", k, e)
		}
	}
	return h
}

// point names a point: by its letter, or by its number.
func point(x uint64) string {
	switch c := x >> 56; {
	case x == 0:
		return ""
	case x<<8 == 0 && 'a' <= c && c <= 'z':
		return string(rune(c))
	}
	return strconv.FormatUint(x, 10)
}

// spell writes arcs that are owned: "c-f@2 f-k@3".
func spell(l []api.Owned) string {
	var parts []string
	for _, o := range l {
		part := point(o.Arc.From) + "-" + point(o.Arc.To) + "@" + strconv.Itoa(o.Epoch)
		if o.Node != node {
			part += " of " + strconv.Itoa(o.Node)
		}
		parts = append(parts, part)
	}
	return strings.Join(parts, " ")
}

// keys writes the keys of items; of those whose value is another text, that too.
func keys(l []api.Item) string {
	var parts []string
	for _, item := range l {
		part := item.Key
		if item.Value != item.Key {
			part += "=" + item.Value
		}
		parts = append(parts, part)
	}
	return strings.Join(parts, " ")
}

// items makes items, each of which is its own value.
func items(keys string) (l []api.Item) {
	for _, k := range strings.Fields(keys) {
		l = append(l, api.Item{Key: k, Value: k})
	}
	return l
}

// get, put and del do one thing.
func get(h *hold.Hold, k string) api.Told { return h.Do(api.Ask{Op: api.Get, Key: k}) }

func put(h *hold.Hold, k, v string) api.Errno {
	return h.Do(api.Ask{Op: api.Put, Key: k, Value: v}).Errno
}

func del(h *hold.Hold, k string) api.Errno { return h.Do(api.Ask{Op: api.Del, Key: k}).Errno }

// isText holds a text against what it should be.
func isText(t *testing.T, what, got, want string) {
	t.Helper()
	if got != want {
		t.Errorf("%s: %q, not %q", what, got, want)
	}
}

// is holds what is told against what should be.
func is[T comparable](t *testing.T, what string, got, want T) {
	t.Helper()
	if got != want {
		t.Errorf("%s: %v, not %v", what, got, want)
	}
}

// has holds Arcs and Items against what there should be.
func has(t *testing.T, what string, h *hold.Hold, arcs, all string) {
	t.Helper()
	isText(t, what+": Arcs", spell(h.Arcs()), arcs)
	isText(t, what+": Items", keys(h.Items()), all)
	is(t, what+": Len", h.Len(), len(strings.Fields(all)))
}

// tells holds what an ask is told against what should be told.
func tells(t *testing.T, what string, h *hold.Hold, a api.Ask, want api.Told) {
	t.Helper()
	if got := h.Do(a); !like(got, want) {
		t.Errorf("%s: Do(%v): %+v, not %+v", what, a, got, want)
	}
}

// like tells whether two told the same; a list that is nil and an empty one are.
func like(a, b api.Told) bool {
	same := slices.Equal(a.Items, b.Items)
	return same && a.Errno == b.Errno && a.Value == b.Value && a.More == b.More && a.Next == b.Next && a.Node == b.Node
}

// freezes holds Freeze of an arc that may be frozen against what it should tell.
func freezes(t *testing.T, what string, h *hold.Hold, a api.Arc, all string, epoch int) {
	t.Helper()
	l, got, e := h.Freeze(a)
	if keys(l) != all || got != epoch || e != api.OK {
		t.Errorf("%s: Freeze(%v): %q, %d, %d, not %q, %d", what, a, keys(l), got, e, all, epoch)
	}
}

// freezesNot holds Freeze of one that may not be against an error, and nothing beside it.
func freezesNot(t *testing.T, what string, h *hold.Hold, a api.Arc, want api.Errno) {
	t.Helper()
	if l, epoch, e := h.Freeze(a); len(l) != 0 || epoch != 0 || e != want {
		t.Errorf("%s: Freeze(%v): %v, %d, %d, not %d", what, a, l, epoch, e, want)
	}
}

// roomIs holds for how many more there is room against how many it should be.
func roomIs(t *testing.T, what string, h *hold.Hold, want int) {
	t.Helper()
	if h.Keep(want + 1) {
		t.Errorf("%s: there is room for %d", what, want+1)
		h.Release(want + 1)
	}
	if !h.Keep(want) {
		t.Errorf("%s: there is no room for %d", what, want)
		return
	}
	h.Release(want)
}

// long is a text of so many bytes.
func long(letter string, count int) string { return strings.Repeat(letter, count) }

// dice draws numbers, the same ones for the same beginning each time.
type dice uint64

// roll tells a number.
func (d *dice) roll() uint64 {
	*d = *d*6364136223846793005 + 1442695040888963407
	return uint64(*d>>32) | uint64(*d)<<32
}

// of tells a number from 0 on, below most.
func (d *dice) of(most int) int {
	return int(d.roll() & math.MaxInt32 % uint64(most))
}
