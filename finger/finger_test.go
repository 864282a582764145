package finger_test

import (
	"slices"
	"strconv"
	"testing"

	"rosary/finger"
)

func TestP1201Fingers(t *testing.T) {
	for _, c := range []struct {
		what  string
		me    uint64
		seats []uint64
		want  []uint64
	}{
		{"no seats", 5, nil, nil},
		{"an empty list", 5, []uint64{}, nil},
		{"me alone", 5, []uint64{5}, nil},
		{"me alone, several times", 5, []uint64{5, 5, 5}, nil},
		{"me alone, at 0", 0, []uint64{0}, nil},
		{"me alone, at the greatest point", end, []uint64{end, end}, nil},
		{"the point 0 alone, which is not me", 5, []uint64{0}, []uint64{0}},
		{"me among others", 0, []uint64{0, 4, 9, 20}, []uint64{4, 9, 20}},
		{"me among others, more than once", 9, []uint64{9, 0, 9, 4, 20, 9}, []uint64{20, 0}},
		{"me not among them", 7, []uint64{0, 4, 9, 20}, []uint64{9, 20, 0}},
		{"the same seat twice", 0, []uint64{4, 9, 4, 20, 9, 20}, []uint64{4, 9, 20}},
		{"the same seat alone, twice", 3, []uint64{4, 4}, []uint64{4}},
		{"one is passed over", 0, []uint64{4, 5, 6, 7, 8}, []uint64{4, 8}},
		{"all powers of two lead on to it", 20, []uint64{0, 4, 9, 20}, []uint64{0}},
		{"just behind me", 5, []uint64{6}, []uint64{6}},
		{"just ahead of me", 5, []uint64{4}, []uint64{4}},
		{"both beside me", 5, []uint64{4, 5, 6}, []uint64{6, 4}},
		{"just behind me, of two", 5, []uint64{7, 6}, []uint64{6, 7}},
		{"just ahead of me, of two", 5, []uint64{3, 4}, []uint64{3}},
		{"beside me, across 0", 0, []uint64{end, 1}, []uint64{1, end}},
		{"beside me, at the greatest point", end, []uint64{end - 1, 0}, []uint64{0, end - 1}},
		{"half of the ring away", 5, []uint64{5, 1<<63 + 5}, []uint64{1<<63 + 5}},
		{"all half of the ring, or less, away", 5, []uint64{5, 1<<63 + 5, 1<<63 + 6}, []uint64{1<<63 + 5}},
		{"more than half of it away", 5, []uint64{5, 1<<63 + 6}, []uint64{1<<63 + 6}},
		{"more than half of it away, behind one", 5, []uint64{6, 1<<63 + 6, 1<<63 + 7}, []uint64{6, 1<<63 + 6}},
		{"what lies ahead of me comes up behind what lies behind it", 1 << 63, []uint64{0, 1, end, 1<<63 - 1, 1<<63 + 1}, []uint64{1<<63 + 1, end, 0}},
	} {
		knows(t, c.what, c.me, c.seats, c.want...)
		slices.Reverse(c.seats)
		knows(t, c.what+", from behind", c.me, c.seats, c.want...)
	}
}

// TestP1201FingersOrder: the order in which seats are handed in is nothing to what is told.
func TestP1201FingersOrder(t *testing.T) {
	for _, c := range []struct {
		me    uint64
		seats []uint64
		want  []uint64
	}{
		{0, []uint64{0, 4, 9, 20, 100}, []uint64{4, 9, 20, 100}},
		{9, []uint64{0, 4, 9, 20, 21}, []uint64{20, 0}},
		{7, []uint64{0, 4, 9, 20, 20}, []uint64{9, 20, 0}},
		{end, []uint64{end, 0, 1, 5, 9}, []uint64{0, 1, 5, 9}},
		{end - 2, []uint64{end, 0, 1, 5, 1 << 63}, []uint64{end, 1, 5, 1 << 63}},
	} {
		for list := range orders(c.seats) {
			knows(t, "in any order", c.me, list, c.want...)
			knows(t, "in any order, twice", c.me, append(list, list...), c.want...)
		}
	}
}

// TestP1201FingersOne: one seat, wherever it lies, is told once, though it comes up for every k.
func TestP1201FingersOne(t *testing.T) {
	for _, me := range places() {
		for k := range reaches {
			for _, s := range []uint64{me + pow(k), me + pow(k) - 1, me + pow(k) + 1, me - pow(k), me - pow(k) - 1, me - pow(k) + 1} {
				if s == me {
					continue
				}
				knows(t, "one seat", me, []uint64{s}, s)
				knows(t, "one seat beside me", me, []uint64{s, me}, s)
			}
		}
	}
}

// TestP1201FingersAt: seats at, one ahead of and one behind me and 2 to the k, for each k, all round the ring.
func TestP1201FingersAt(t *testing.T) {
	for k := range reaches {
		from := append(places(), -pow(k), -pow(k)-1, -pow(k)+1, -pow(k)-2) // the last ones lie at, and beside, 0 and the greatest point by it
		for _, me := range from {
			what := "k " + strconv.Itoa(k)
			at := me + pow(k)
			if k == 0 {
				knows(t, what+", me, at it and one behind", me, []uint64{at - 1, at, at + 1}, at, at+1)
				knows(t, what+", me and one behind", me, []uint64{at - 1, at + 1}, at+1)
				knows(t, what+", at it and one behind", me, []uint64{at, at + 1}, at, at+1)
				knows(t, what+", one and two behind", me, []uint64{at + 1, at + 2}, at+1)
				continue
			}
			knows(t, what+", ahead, at it and behind", me, []uint64{at - 1, at, at + 1}, at-1, at)
			knows(t, what+", ahead and at it", me, []uint64{at - 1, at}, at-1, at)
			knows(t, what+", ahead and behind", me, []uint64{at - 1, at + 1}, at-1, at+1)
			knows(t, what+", at it and behind", me, []uint64{at, at + 1}, at)
			if k > 1 { // two behind me and 2 is me and 4
				knows(t, what+", one and two behind", me, []uint64{at + 1, at + 2}, at+1)
			}
			knows(t, what+", me too, ahead, at it and behind", me, []uint64{at - 1, at, at + 1, me}, at-1, at)
		}
	}
}

// TestP1201FingersAll: a seat for each k, at it, behind it and ahead of it.
func TestP1201FingersAll(t *testing.T) {
	for _, me := range places() {
		var at, behind, ahead []uint64
		for k := range reaches {
			at = append(at, me+pow(k))
			behind = append(behind, me+pow(k)+1)
			if k > 0 {
				ahead = append(ahead, me+pow(k)-1)
			}
		}
		knows(t, "one for each k", me, at, at...)
		// The one behind me and 1 is at me and 2.
		knows(t, "one behind each k", me, behind, slices.Delete(slices.Clone(behind), 1, 2)...)
		// Each comes up for the k below its own, the first of them for that of me and 2 to the 63 too.
		knows(t, "one ahead of each k", me, ahead, ahead...)
		knows(t, "one ahead of each k, and me", me, append(ahead, me), ahead...)
		knows(t, "one at each k and one behind it", me, slices.Concat(behind[1:], at), at...)
		knows(t, "one for each k, from behind", me, backwards(at), at...)
		knows(t, "one for each k, all of them twice", me, slices.Concat(at, backwards(at), []uint64{me}), at...)
		for n := range at {
			less := slices.Delete(slices.Clone(at), n, n+1) // the next one, if there is one, comes up twice
			knows(t, "one for each k but "+strconv.Itoa(n), me, less, less...)
		}
	}
}

// backwards tells a list from behind.
func backwards(list []uint64) []uint64 {
	list = slices.Clone(list)
	slices.Reverse(list)
	return list
}

// TestP1201FingersAgain: one seat comes up for several k, and another one between.
func TestP1201FingersAgain(t *testing.T) {
	knows(t, "another one between", 7, []uint64{9, 20}, 9, 20)
	knows(t, "two others between", 7, []uint64{9, 20, 1000}, 9, 20, 1000)
	knows(t, "another one between, and me", 7, []uint64{9, 20, 7}, 9, 20)
	for _, me := range places() {
		for a := range reaches {
			for b := a + 1; b < reaches; b++ {
				near, far := me+pow(a), me+pow(b)
				knows(t, "near, far and near", me, []uint64{far, near}, near, far)
				knows(t, "near, far and me", me, []uint64{far, me, near}, near, far)
				knows(t, "near, far and just ahead of me", me, []uint64{far, near, me - 1}, slowFingers(me, []uint64{far, near, me - 1})...)
			}
		}
	}
}

// TestP1201FingersSets: each set of the points around 0, and of some far from one another.
func TestP1201FingersSets(t *testing.T) {
	for _, points := range [][]uint64{
		{end - 3, end - 2, end - 1, end, 0, 1, 2, 3, 4},
		{0, 3, 4, 5, 8, 1 << 62, 1 << 63, 1<<63 + 1, end},
	} {
		for seats := range sets(points) {
			for _, me := range append(points, 1<<63-1, 9) {
				want := slowFingers(me, seats)
				knows(t, "a set", me, seats, want...)
				knows(t, "a set from behind", me, backwards(seats), want...)
			}
		}
	}
}

// TestP1201FingersMany: drawn seats, near one another and far from one another.
func TestP1201FingersMany(t *testing.T) {
	d := dice(12)
	for _, most := range []uint64{1, 3, 100, 1 << 20, 1 << 40, 1 << 55, 1 << 58} {
		for range 60 {
			seats := d.seats(d.of(50)+1, most)
			for range 10 {
				me := seats[d.of(len(seats))] + uint64(d.of(3)) - 1
				got := finger.Fingers(me, seats...)
				if want := slowFingers(me, seats); !slices.Equal(got, want) {
					t.Errorf("Fingers(%d, %d): %d, not %d", me, seats, got, want)
				}
			}
		}
	}
}
