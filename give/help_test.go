package give_test

import (
	"math"
	"slices"
	"strconv"
	"strings"
	"testing"

	"rosary/api"
	"rosary/give"
	"rosary/hold"
)

const (
	end = math.MaxUint64 // the last point of the ring
	me  = 7              // who gives in the tests
	to  = 3              // to whom
	id  = 21             // the transfer's number
)

// at is the point of a key of one letter; 0 of none.
func at(letter string) uint64 {
	if letter == "" {
		return 0
	}
	return uint64(letter[0]) << 56
}

// span makes an arc from a letter's point up to another one's: "c-f", "c-" up to the end.
func span(letters string) api.Arc {
	first, last, _ := strings.Cut(letters, "-")
	return api.Arc{From: at(first), To: at(last)}
}

// holds makes a hold, with room enough, of arcs, "c-f@2 f-k@3", and of keys, each of which is its value too.
func holds(t *testing.T, arcs, keys string) *hold.Hold {
	t.Helper()
	h := hold.New(me, 200)
	for _, part := range strings.Fields(arcs) {
		letters, epoch, _ := strings.Cut(part, "@")
		n, _ := strconv.Atoi(epoch)
		if !h.Own(span(letters), n) {
			t.Fatalf("Own(%s) is false", part)
		}
	}
	for _, k := range strings.Fields(keys) {
		if e := put(h, k, k); e != api.OK {
			t.Fatalf("Put %q: %d", k, e)
		}
	}
	return h
}

// starts begins a transfer that may be begun.
func starts(t *testing.T, h *hold.Hold, arc string) *give.Give {
	t.Helper()
	g, l, e := give.Start(h, span(arc), me, to, id)
	if g == nil || len(l) != 1 || e != api.OK {
		t.Fatalf("Start(%s): %v, %v, %d", arc, g, l, e)
	}
	return g
}

// in begins one in the step, of the arc c-k of a hold that has six items of it, and four beside it.
func in(t *testing.T, step int) (*hold.Hold, *give.Give) {
	t.Helper()
	h := holds(t, "b-p@4", "b bb c d e f g h k m")
	g := starts(t, h, "c-k")
	if step == 5 {
		g.Stop()
	}
	for _, x := range []api.Letter{accept(1), got(1), got(2), done()} {
		if g.Step() < step {
			g.Got(x)
		}
	}
	if g.Step() != step {
		t.Fatalf("Step %d, not %d", g.Step(), step)
	}
	return h, g
}

// letter is one of the other one's.
func letter(kind, n int) api.Letter { return api.Letter{Kind: kind, From: to, To: me, Id: id, N: n} }

func accept(n int) api.Letter { return letter(api.KindAccept, n) }

func got(n int) api.Letter { return letter(api.KindGot, n) }

func done() api.Letter { return letter(api.KindDone, 0) }

// mine is a letter that goes to the other one.
func mine(kind int) api.Letter { return api.Letter{Kind: kind, From: me, To: to, Id: id} }

// offer is what asks whether an arc is wanted.
func offer(arc string, epoch, n int) api.Letter {
	x := mine(api.KindOffer)
	x.Arc, x.Epoch, x.N = span(arc), epoch, n
	return x
}

// chunk is one of some items, each of which is its own value.
func chunk(n int, keys string) api.Letter {
	x := mine(api.KindChunk)
	x.N = n
	for _, k := range strings.Fields(keys) {
		x.Items = append(x.Items, api.Item{Key: k, Value: k})
	}
	return x
}

// commit is what promises an arc.
func commit(arc string, epoch int) api.Letter {
	x := mine(api.KindCommit)
	x.Arc, x.Epoch = span(arc), epoch
	return x
}

// like tells whether two letters are the same; a list that is nil and an empty one are.
func like(a, b api.Letter) bool {
	told := slices.Equal(a.Told.Items, b.Told.Items) && a.Told.Errno == b.Told.Errno && a.Told.Value == b.Told.Value &&
		a.Told.More == b.Told.More && a.Told.Next == b.Told.Next && a.Told.Node == b.Told.Node
	head := a.Kind == b.Kind && a.From == b.From && a.To == b.To && a.Id == b.Id && a.Ask == b.Ask
	return told && head && a.Arc == b.Arc && a.Epoch == b.Epoch && slices.Equal(a.Items, b.Items) && a.N == b.N && a.Node == b.Node
}

// sends holds letters against those that should be sent.
func sends(t *testing.T, what string, l []api.Letter, want ...api.Letter) {
	t.Helper()
	if !slices.EqualFunc(l, want, like) {
		t.Errorf("%s: sent %+v, not %+v", what, l, want)
	}
}

// gets holds what a letter brings about against what it should: the step behind it, and what is sent.
func gets(t *testing.T, what string, g *give.Give, x api.Letter, step int, want ...api.Letter) {
	t.Helper()
	l, over := g.Got(x)
	sends(t, what, l, want...)
	is(t, what+": over", over, step == 4 || step == 5)
	is(t, what+": Step", g.Step(), step)
}

// ignores holds a letter against nothing: it changes nothing, and nothing is sent.
func ignores(t *testing.T, what string, g *give.Give, x api.Letter) {
	t.Helper()
	gets(t, what, g, x, g.Step())
}

// foreign holds a letter of another one, or another transfer, against nothing, however far it is.
func foreign(t *testing.T, what string, g *give.Give, x api.Letter) {
	t.Helper()
	step := g.Step()
	l, over := g.Got(x)
	sends(t, what, l)
	is(t, what+": over", over, false)
	is(t, what+": Step", g.Step(), step)
}

// stops holds a Stop against what it should tell.
func stops(t *testing.T, what string, g *give.Give, may bool, step int) {
	t.Helper()
	l, ok := g.Stop()
	is(t, what+": may", ok, may)
	is(t, what+": Step", g.Step(), step)
	if may {
		sends(t, what, l, mine(api.KindDrop))
		return
	}
	sends(t, what, l)
}

// spell writes arcs that are owned: "c-f@2 f-k@3".
func spell(l []api.Owned) string {
	var parts []string
	for _, o := range l {
		part := point(o.Arc.From) + "-" + point(o.Arc.To) + "@" + strconv.Itoa(o.Epoch)
		if o.Node != me {
			part += " of " + strconv.Itoa(o.Node)
		}
		parts = append(parts, part)
	}
	return strings.Join(parts, " ")
}

// point names a point: by its letter, or by its number.
func point(x uint64) string {
	switch c := x >> 56; {
	case x == 0:
		return ""
	case x<<8 == 0 && 'a' <= c && c <= 'z':
		return string(rune(c))
	}
	return strconv.FormatUint(x, 10)
}

// keys writes the keys of items; of those whose value is another text, that too.
func keys(l []api.Item) string {
	var parts []string
	for _, item := range l {
		part := item.Key
		if item.Value != item.Key {
			part += "=" + item.Value
		}
		parts = append(parts, part)
	}
	return strings.Join(parts, " ")
}

// has holds what is owned and what items there are against what there should be.
func has(t *testing.T, what string, h *hold.Hold, arcs, all string) {
	t.Helper()
	isText(t, what+": Arcs", spell(h.Arcs()), arcs)
	isText(t, what+": Items", keys(h.Items()), all)
	is(t, what+": Len", h.Len(), len(strings.Fields(all)))
}

// free tells whether nothing is frozen.
func free(h *hold.Hold) bool {
	_, _, e := h.Freeze(api.Arc{From: end, To: end - 1})
	if e == api.OK {
		h.Thaw()
	}
	return e != api.ErrBusy
}

// get, put, del and scan do one thing.
func get(h *hold.Hold, k string) api.Told { return h.Do(api.Ask{Op: api.Get, Key: k}) }

func put(h *hold.Hold, k, v string) api.Errno {
	return h.Do(api.Ask{Op: api.Put, Key: k, Value: v}).Errno
}

func del(h *hold.Hold, k string) api.Errno { return h.Do(api.Ask{Op: api.Del, Key: k}).Errno }

func scan(h *hold.Hold, k, to string) api.Told {
	return h.Do(api.Ask{Op: api.Scan, Key: k, To: to, Most: 40})
}

// isText holds a text against what it should be.
func isText(t *testing.T, what, got, want string) {
	t.Helper()
	if got != want {
		t.Errorf("%s: %q, not %q", what, got, want)
	}
}

// is holds what is told against what should be.
func is[T comparable](t *testing.T, what string, got, want T) {
	t.Helper()
	if got != want {
		t.Errorf("%s: %v, not %v", what, got, want)
	}
}

// dice draws numbers, the same ones for the same beginning each time.
type dice uint64

// roll tells a number.
func (d *dice) roll() uint64 {
	*d = *d*6364136223846793005 + 1442695040888963407
	return uint64(*d>>32) | uint64(*d)<<32
}

// of tells a number from 0 on, below most.
func (d *dice) of(most int) int {
	return int(d.roll() & math.MaxInt32 % uint64(most))
}
