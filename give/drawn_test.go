package give_test

import (
	"slices"
	"strconv"
	"strings"
	"testing"

	"rosary/api"
	"rosary/give"
	"rosary/hold"
)

// slow is what the tests hold a transfer against: the chapter's words, over a list of what lies in the arc.
type slow struct {
	items      []api.Item
	step, last int
}

// got is what a letter brings about: what kind is sent, of which number, with which items.
func (s *slow) got(x api.Letter) (kind, n int, items []api.Item, over bool) {
	if x.From != to || x.Id != id {
		return 0, 0, nil, false
	}
	switch {
	case s.step == 1 && x.Kind == api.KindAccept && x.N == 0:
		s.step = 5
	case s.step == 1 && x.Kind == api.KindAccept && x.N == 1, s.step == 2 && x.Kind == api.KindGot && x.N == s.last:
		if s.last*4 >= len(s.items) {
			s.step = 3
			return api.KindCommit, 0, nil, false
		}
		s.step = 2
		s.last++
		return api.KindChunk, s.last, s.items[s.last*4-4 : min(s.last*4, len(s.items))], false
	case s.step == 3 && x.Kind == api.KindDone:
		s.step = 4
	}
	return 0, 0, nil, s.step > 3
}

// draw is a letter, most often one that is waited for.
func draw(d *dice, s *slow) api.Letter {
	x := letter([]int{api.KindAccept, api.KindGot, api.KindDone, api.KindAccept, 1 + d.of(16)}[d.of(5)], 1)
	if x.Kind == api.KindGot {
		x.N = s.last - d.of(2)*d.of(3) + d.of(2)*d.of(2)
	}
	if x.Kind == api.KindAccept && d.of(4) == 0 {
		x.N = d.of(4) - 1
	}
	switch d.of(20) {
	case 0:
		x.From = d.of(5)
	case 1:
		x.Id = id - 1 + d.of(3)
	}
	return x
}

// Whatever comes, in whatever order, each letter brings about what the chapter says.
func TestP1501Drawn(t *testing.T) {
	d := dice(1501)
	for round := range 400 {
		h, arc, inside, beside := drawn(t, &d)
		before := keys(h.Items())
		arcs := spell(h.Arcs())
		g, l, e := give.Start(h, arc, me, to, id)
		is(t, "Start", e, api.OK)
		sends(t, "Start", l, api.Letter{Kind: api.KindOffer, From: me, To: to, Id: id, Arc: arc, Epoch: 5, N: len(inside)})
		s := &slow{items: inside, step: 1}
		for step := range 60 {
			what := "round " + strconv.Itoa(round) + ", letter " + strconv.Itoa(step)
			if d.of(50) == 0 {
				may := s.step < 3
				if may {
					s.step = 5
				}
				stops(t, what+": Stop", g, may, s.step)
				continue
			}
			x := draw(&d, s)
			kind, n, items, over := s.got(x)
			l, now := g.Got(x)
			is(t, what+": over", now, over)
			is(t, what+": Step", g.Step(), s.step)
			switch want := (api.Letter{Kind: kind, From: me, To: to, Id: id, N: n, Items: items}); kind {
			case 0:
				sends(t, what, l)
			case api.KindCommit:
				want.Arc, want.Epoch = arc, 5
				sends(t, what, l, want)
			default:
				sends(t, what, l, want)
			}
			if s.step == 4 {
				isText(t, what+": what is left", keys(h.Items()), keys(beside))
				continue
			}
			isText(t, what+": Items", keys(h.Items()), before)
			isText(t, what+": Arcs", spell(h.Arcs()), arcs)
		}
		is(t, "nothing is frozen", free(h), s.step > 3)
	}
}

// drawn makes a hold of the whole ring with some keys, an arc of it, and tells which of them lie in it, in its order, and which do not.
func drawn(t *testing.T, d *dice) (h *hold.Hold, arc api.Arc, inside, beside []api.Item) {
	h = holds(t, "-@4", "")
	for range d.of(24) {
		put(h, strings.Repeat(string(rune('a'+d.of(26))), 1+d.of(3)), strconv.Itoa(d.of(9)))
	}
	arc = api.Arc{From: at(string(rune('a' + d.of(26)))), To: at(string(rune('a' + d.of(26))))}
	far := func(item api.Item) uint64 { return addr(item.Key) - arc.From }
	for _, item := range h.Items() {
		if arc.From == arc.To || far(item) < arc.To-arc.From {
			inside = append(inside, item)
		} else {
			beside = append(beside, item)
		}
	}
	slices.SortStableFunc(inside, func(a, b api.Item) int {
		if far(a) < far(b) {
			return -1
		}
		return 1
	})
	return h, arc, inside, beside
}

// addr is where a key lies.
func addr(k string) (x uint64) {
	for n := range 8 {
		x <<= 8
		if n < len(k) {
			x |= uint64(k[n])
		}
	}
	return x
}
