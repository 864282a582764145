package bag_test

import (
	"reflect"
	"slices"
	"strconv"
	"testing"

	"rosary/api"
	"rosary/bag"
)

// way is what goes through packets.
type way = func(yield func(int, api.Packet) bool)

// told goes through a way, and stops behind so many packets.
func told(seq way, most int) []int {
	var come []int
	for _, p := range seq {
		come = append(come, p.Seq)
		if len(come) == most {
			break
		}
	}
	return come
}

func TestP801All(t *testing.T) {
	for _, many := range []int{0, 1, 2, 3, 9, api.MaxBag} {
		b := filled(t, many, upTo(many)...)
		hold(t, "All of "+strconv.Itoa(many), b, upTo(many)...)
		hold(t, "All of "+strconv.Itoa(many)+", once more", b, upTo(many)...)
	}
	b := bag.New(3)
	for n := range 3 {
		b.Put(whole(n))
	}
	for n, p := range b.All() {
		if !reflect.DeepEqual(p, whole(n)) {
			t.Errorf("All tells %+v as number %d", p, n)
		}
	}
	b = filled(t, 4, 1)
	b.Twice(0)
	b.Put(plain(2))
	hold(t, "one that is there twice", b, 1, 1, 2)
	b.All()(nil)
	hold(t, "behind nobody to tell it to", b, 1, 1, 2)
}

// TestP801AllEnds: a way that is told to end goes on no more, and is whole when it is gone again.
func TestP801AllEnds(t *testing.T) {
	for many := range 7 {
		b := filled(t, many, upTo(many)...)
		seq := b.All()
		for stop := 1; stop <= many+1; stop++ {
			var come []int
			seq(func(n int, p api.Packet) bool { // not by a loop: it would end a way that goes on
				if n != len(come) {
					t.Errorf("number %d as the %d-th", n, len(come))
				}
				come = append(come, p.Seq)
				return len(come) < stop
			})
			if want := upTo(min(stop, many)); !slices.Equal(come, want) {
				t.Errorf("All of %d, ended at its packet %d: %s", many, stop, spelt(come))
			}
			if got := told(seq, -1); !slices.Equal(got, upTo(many)) {
				t.Errorf("All of %d, gone again: %s", many, spelt(got))
			}
			hold(t, "gone through up to "+strconv.Itoa(stop), b, upTo(many)...)
		}
	}
}

// TestP801AllWithin: one way within another one, and within itself.
func TestP801AllWithin(t *testing.T) {
	b := filled(t, 4, 3, 1, 2, 1)
	seq := b.All()
	var come []int
outer:
	for _, p := range seq {
		for n, other := range seq {
			switch {
			case n == 1 && p.Seq == 2:
				break outer
			case other.Seq == p.Seq:
				continue outer
			}
			come = append(come, 10*p.Seq+other.Seq)
		}
	}
	if got := spelt(come); got != "13,23" {
		t.Errorf("ways within one another: %s", got)
	}
	come = nil
	for _, p := range seq {
		if got := told(b.All(), -1); !slices.Equal(got, []int{3, 1, 2, 1}) {
			t.Errorf("within another one: %s", spelt(got))
		}
		told(b.All(), 1) // one that is ended ends no other one
		b.On(1, 101)
		come = append(come, p.Seq)
	}
	if got := spelt(come); got != "3,1,2,1" {
		t.Errorf("around others: %s", got)
	}
}

// putNines puts alike packets in, as many as a bag for eight has room for.
func putNines(b *bag.Bag) {
	for range 9 {
		b.Put(plain(9))
	}
}

// turns lists ways to turn a bag of five that has room for three more, and what it has then.
func turns() []struct {
	what string
	do   func(b *bag.Bag)
	want []int
} {
	return []struct {
		what string
		do   func(b *bag.Bag)
		want []int
	}{
		{"nothing", func(b *bag.Bag) {}, []int{0, 1, 2, 3, 4}},
		{"Put", func(b *bag.Bag) { b.Put(plain(9)) }, []int{0, 1, 2, 3, 4, 9}},
		{"Put of many", putNines, []int{0, 1, 2, 3, 4, 9, 9, 9}},
		{"Take of the first", func(b *bag.Bag) { b.Take(0) }, []int{1, 2, 3, 4}},
		{"Take of the last", func(b *bag.Bag) { b.Take(4) }, []int{0, 1, 2, 3}},
		{"Take between", func(b *bag.Bag) { b.Take(2) }, []int{0, 1, 3, 4}},
		{"Drop of the first", func(b *bag.Bag) { b.Drop(0) }, []int{1, 2, 3, 4}},
		{"Drop of all", empty, nil},
		{"Twice", func(b *bag.Bag) { b.Twice(3) }, []int{0, 1, 2, 3, 4, 3}},
		{"Drop and Put", func(b *bag.Bag) { b.Drop(1); b.Put(plain(8)); b.Drop(0); b.Put(plain(9)) }, []int{2, 3, 4, 8, 9}},
		{"others in their places", func(b *bag.Bag) { empty(b); putNines(b) }, []int{9, 9, 9, 9, 9, 9, 9, 9}},
	}
}

// TestP801AllWhile: a way tells the packets as they were when its going began, however the bag is turned meanwhile.
func TestP801AllWhile(t *testing.T) {
	for _, turn := range turns() {
		for when := range 5 {
			b := bag.New(8)
			seq := b.All() // it goes when it is gone, not when it is made
			for n := range 5 {
				b.Put(plain(n))
			}
			what := turn.what + " at packet " + strconv.Itoa(when)
			var come []int
			for n, p := range seq {
				if n != len(come) || !reflect.DeepEqual(p, plain(p.Seq)) {
					t.Errorf("%s: number %d, %+v", what, n, p)
				}
				if n == when {
					turn.do(b)
					hold(t, what+", at once", b, turn.want...)
				}
				come = append(come, p.Seq)
			}
			if !slices.Equal(come, upTo(5)) {
				t.Errorf("%s: %s", what, spelt(come))
			}
			hold(t, what+", behind it", b, turn.want...)
			if got := told(seq, -1); !slices.Equal(got, turn.want) {
				t.Errorf("%s, gone again: %s, not %s", what, spelt(got), spelt(turn.want))
			}
		}
	}
	b := filled(t, 4, 1, 2, 3)
	for range b.All() { // what goes through it empties it
		b.Drop(0)
	}
	hold(t, "emptied by its way", b)
}
