package hold_test

import (
	"slices"
	"testing"

	"rosary/api"
	"rosary/hold"
)

// slow is what the tests hold a hold against: it knows of few points alone, whose owner each is kept by itself.
type slow struct {
	epochs         map[uint64]int // of what is owned, from each of the points on, up to the next one
	items          map[string]string
	frozen         *api.Arc
	sent           []sent
	now            int
	most, reserved int
}

// sent is what was given away, to whom and when.
type sent struct {
	arc      api.Arc
	to, when int
}

// places are the points between which nothing is told apart, rising.
var places = []uint64{0, 1, at("b"), at("c"), at("d"), at("e"), at("f"), end - 1, end}

// texts are keys of each of the places, and some that may not be.
var texts = []string{"", "\x00", "\x00\x00\x00\x00\x00\x00\x00\x01", "a", "b", "b\x00", "bb", "c", "cc", "d", "dz", "e", "f", "zzzzzzzzzzzzzzzz", "zzzzzzzzzzzzzzzzz", long("\xff", 8), long("\xff", 9)}

// of is the place in which a point lies.
func of(x uint64) uint64 {
	n, found := slices.BinarySearch(places, x)
	if !found {
		n--
	}
	return places[n]
}

// addr is where a key lies.
func addr(k string) (x uint64) {
	for n := range 8 {
		x <<= 8
		if n < len(k) {
			x |= uint64(k[n])
		}
	}
	return x
}

// way goes through an arc's places, in its order.
func way(a api.Arc) (l []uint64) {
	n := slices.Index(places, a.From)
	for {
		l = append(l, places[n])
		n = (n + 1) % len(places)
		if places[n] == a.To {
			return l
		}
	}
}

// owns tells whether all of an arc is owned, and none of it.
func (s *slow) owns(a api.Arc) (all, none bool) {
	all, none = true, true
	for _, x := range way(a) {
		if _, is := s.epochs[x]; is {
			none = false
		} else {
			all = false
		}
	}
	return all, none
}

// shut tells whether a place is frozen.
func (s *slow) shut(x uint64) bool {
	return s.frozen != nil && slices.Contains(way(*s.frozen), x)
}

// arcs tells what Arcs should tell; with any, what Pieces should.
func (s *slow) arcs(any bool) (l []api.Owned) {
	begins := func(n int) bool {
		e, is := s.epochs[places[n]]
		before, was := s.epochs[places[(n+len(places)-1)%len(places)]]
		return is && (!was || !any && e != before)
	}
	for n, x := range places {
		if !begins(n) {
			continue
		}
		o := api.Owned{Node: node, Epoch: s.epochs[x], Arc: api.Arc{From: x}}
		for m := n + 1; ; m++ {
			next := m % len(places)
			e, is := s.epochs[places[next]]
			if !is || begins(next) {
				o.Arc.To = places[next]
				break
			}
			o.Epoch = max(o.Epoch, e)
		}
		l = append(l, o)
	}
	if len(l) == 0 && len(s.epochs) > 0 {
		return []api.Owned{{Node: node, Epoch: s.epoch(api.Arc{})}}
	}
	return l
}

// epoch is the greatest one of what is owned in an arc.
func (s *slow) epoch(a api.Arc) (e int) {
	for _, x := range way(a) {
		e = max(e, s.epochs[x])
	}
	return e
}

// keys are all keys, rising.
func (s *slow) keys() (l []string) {
	for k := range s.items {
		l = append(l, k)
	}
	slices.Sort(l)
	return l
}

// within are the items of an arc, in its order.
func (s *slow) within(a api.Arc) (l []api.Item) {
	for _, x := range way(a) {
		for _, k := range s.keys() {
			if of(addr(k)) == x {
				l = append(l, api.Item{Key: k, Value: s.items[k]})
			}
		}
	}
	return l
}

func (s *slow) Do(a api.Ask) api.Told {
	switch {
	case a.Op < 1 || a.Op > 4 || a.Op == api.Scan && (a.Most < 0 || a.Most > 40):
		return api.Told{Errno: api.ErrArg}
	case len(a.Key) > 16 || a.Key == "" && a.Op != api.Scan:
		return api.Told{Errno: api.ErrKey}
	}
	x := of(addr(a.Key))
	if _, is := s.epochs[x]; !is {
		to := -1
		for _, p := range s.sent {
			if s.now-p.when < 40 && slices.Contains(way(p.arc), x) {
				to = p.to
			}
		}
		return api.Told{Errno: api.ErrElse, Node: to}
	}
	if s.shut(x) {
		return api.Told{Errno: api.ErrBusy}
	}
	v, is := s.items[a.Key]
	switch a.Op {
	case api.Scan:
		return s.scan(a)
	case api.Put:
		return s.put(a.Key, a.Value)
	case api.Del:
		delete(s.items, a.Key)
	case api.Get:
		if is {
			return api.Told{Value: v}
		}
	}
	if !is {
		return api.Told{Errno: api.ErrNone}
	}
	return api.Told{}
}

// put is what a Put comes to.
func (s *slow) put(k, v string) api.Told {
	_, is := s.items[k]
	switch {
	case len(v) > 16:
		return api.Told{Errno: api.ErrValue}
	case !is && len(s.items)+s.reserved >= s.most:
		return api.Told{Errno: api.ErrFull}
	}
	s.items[k] = v
	return api.Told{}
}

// scan is what a Scan comes to.
func (s *slow) scan(a api.Ask) (told api.Told) {
	if a.To != "" && a.Key >= a.To {
		return told
	}
	stop, ends := uint64(0), false
	for _, x := range places {
		_, is := s.epochs[x]
		if x > of(addr(a.Key)) && (!is || s.shut(x)) && !ends {
			stop, ends = x, true
		}
	}
	for _, k := range s.keys() {
		if k < a.Key || a.To != "" && k >= a.To || ends && addr(k) >= stop {
			continue
		}
		if len(told.Items) == a.Most {
			told.More, told.Next = true, k
			return told
		}
		told.Items = append(told.Items, api.Item{Key: k, Value: s.items[k]})
	}
	if ends && (a.To == "" || first(stop) < a.To) {
		told.More, told.Next = true, first(stop)
	}
	return told
}

// first is the least key of a point.
func first(x uint64) string {
	var b []byte
	for x != 0 {
		b = append(b, byte(x>>56))
		x <<= 8
	}
	return string(b)
}

// drawnArc draws an arc.
func drawnArc(d *dice) api.Arc {
	return from(places[d.of(len(places))], places[d.of(len(places))])
}

// drawnText draws a key.
func drawnText(d *dice) string { return texts[d.of(len(texts))] }

// agree holds all that a hold tells against what the slow one tells.
func agree(t *testing.T, h *hold.Hold, s *slow) {
	t.Helper()
	if got, want := h.Arcs(), s.arcs(false); !slices.Equal(got, want) {
		t.Errorf("Arcs: %v, not %v", got, want)
	}
	if got, want := h.Pieces(), s.arcs(true); !slices.Equal(got, want) {
		t.Errorf("Pieces: %v, not %v", got, want)
	}
	if got, want := h.Items(), s.within(api.Arc{}); !slices.Equal(got, want) {
		t.Errorf("Items: %v, not %v", got, want)
	}
	is(t, "Len", h.Len(), len(s.items))
	is(t, "Epoch", h.Epoch(), s.epoch(api.Arc{}))
	for _, x := range places {
		_, owned := s.epochs[x]
		is(t, "Has "+point(x), h.Has(x), owned)
	}
	room := s.most - len(s.items) - s.reserved
	roomIs(t, "room", h, room)
}

// move does one drawn thing of those that move arcs, or keep room.
func (s *slow) move(t *testing.T, h *hold.Hold, d *dice) {
	a, n := drawnArc(d), d.of(4)-1
	all, none := s.owns(a)
	switch d.of(9) {
	case 0:
		is(t, "Own", h.Own(a, n), none && n >= 0)
		if none && n >= 0 {
			s.own(a, n)
		}
	case 1:
		s.win(t, h, d, a, n)
	case 2, 3:
		switch {
		case s.frozen != nil:
			freezesNot(t, "drawn", h, a, api.ErrBusy)
		case !all:
			freezesNot(t, "drawn", h, a, api.ErrArg)
		default:
			s.frozen = &a
			freezes(t, "drawn", h, a, keys(s.within(a)), s.epoch(a))
		}
	case 4:
		h.Thaw()
		s.frozen = nil
	case 5:
		s.lose(t, h, n)
	case 6:
		can := n >= 0 && len(s.items)+s.reserved+n <= s.most
		is(t, "Keep", h.Keep(n), can)
		if can {
			s.reserved += n
		}
	case 7:
		h.Release(n)
		s.reserved = max(0, s.reserved-max(0, n))
	default:
		h.Tick()
		s.now++
	}
}

// own owns an arc.
func (s *slow) own(a api.Arc, epoch int) {
	for _, x := range way(a) {
		s.epochs[x] = epoch
	}
}

// lose gives what is frozen away.
func (s *slow) lose(t *testing.T, h *hold.Hold, to int) {
	if s.frozen == nil {
		is(t, "Lose", h.Lose(to), api.ErrState)
		return
	}
	is(t, "Lose", h.Lose(to), api.OK)
	for _, item := range s.within(*s.frozen) {
		delete(s.items, item.Key)
	}
	for _, x := range way(*s.frozen) {
		delete(s.epochs, x)
	}
	s.sent = append(s.sent, sent{*s.frozen, to, s.now})
	s.frozen = nil
}

// win takes an arc with some items, most of which lie in it.
func (s *slow) win(t *testing.T, h *hold.Hold, d *dice, a api.Arc, epoch int) {
	var l []api.Item
	for range d.of(4) {
		k := drawnText(d)
		if slices.Contains(way(a), of(addr(k))) || d.of(8) == 0 {
			l = append(l, api.Item{Key: k, Value: long("w", d.of(18))})
		}
	}
	_, none := s.owns(a)
	want := api.OK
	after := &slow{items: map[string]string{}, most: s.most}
	for k, v := range s.items {
		after.items[k] = v
	}
	for _, item := range slices.Backward(l) {
		if !slices.Contains(way(a), of(addr(item.Key))) {
			none = false
		}
	}
	for _, item := range l {
		if want == api.OK {
			want = after.put(item.Key, item.Value).Errno
			if item.Key == "" || len(item.Key) > 16 {
				want = api.ErrKey
			}
		}
	}
	if !none || epoch < 0 {
		want = api.ErrArg
	}
	is(t, "Win", h.Win(a, epoch, l...), want)
	if want == api.OK {
		s.items, s.reserved = after.items, max(0, s.reserved-len(l))
		s.own(a, epoch)
	}
}

// Whatever is called, in whatever order: all that is told is what the slow one tells.
func TestP1403Drawn(t *testing.T) {
	for begin := range 300 {
		d := dice(begin)
		s := &slow{epochs: map[uint64]int{}, items: map[string]string{}, most: d.of(12)}
		h := hold.New(node, s.most)
		for step := range 120 {
			if d.of(3) == 0 {
				s.move(t, h, &d)
			} else {
				a := api.Ask{Op: 1 + d.of(4), Key: drawnText(&d), Value: long("v", d.of(18)), To: drawnText(&d), Most: d.of(6)}
				if d.of(9) == 0 {
					a.Op, a.Most = d.of(6), d.of(44)-1
				}
				tells(t, "drawn", h, a, s.Do(a))
			}
			agree(t, h, s)
			if t.Failed() {
				t.Fatalf("dice %d, step %d: owned %v, items %v, frozen %v", begin, step, s.epochs, s.items, s.frozen)
			}
		}
	}
}
