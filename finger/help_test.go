package finger_test

import (
	"iter"
	"math"
	"slices"
	"testing"

	"rosary/finger"
)

const end = math.MaxUint64 // the last point of the ring

// reaches is how many powers of two there are.
const reaches = 64

// steps tells how many steps up lead from one point to another, by what lies ahead of the end, and behind it.
func steps(from, to uint64) uint64 {
	if from <= to {
		return to - from
	}
	return end - from + 1 + to
}

// pow is 2 to the k.
func pow(k int) uint64 {
	n := uint64(1)
	for range k {
		n += n
	}
	return n
}

// slowFingers looks for each k through all seats but me.
func slowFingers(me uint64, seats []uint64) (fingers []uint64) {
	for k := range reaches {
		there := me + pow(k)
		best, found := uint64(0), false
		for _, s := range seats {
			if s != me && (!found || steps(there, s) < steps(there, best)) {
				best, found = s, true
			}
		}
		// Where me itself is nearer, nobody is told.
		if found && !(slices.Contains(seats, me) && steps(there, me) < steps(there, best)) && !slices.Contains(fingers, best) {
			fingers = append(fingers, best)
		}
	}
	return fingers
}

// slowHop takes those that lie on the way, and of these the one from which the least is left.
func slowHop(me, to uint64, fingers []uint64) (hop uint64, is bool) {
	for _, f := range fingers {
		if steps(me, f) > 0 && steps(me, f) <= steps(me, to) && (!is || steps(f, to) < steps(hop, to)) {
			hop, is = f, true
		}
	}
	return hop, is
}

// slowWay goes hop by hop.
func slowWay(me, to uint64, seats []uint64) (way []uint64, is bool) {
	if !slices.Contains(seats, me) {
		return nil, false
	}
	for at, on := me, true; on; at, on = slowHop(at, to, slowFingers(at, seats)) {
		way = append(way, at)
	}
	return way, true
}

// knows holds Fingers against whom it should tell.
func knows(t *testing.T, what string, me uint64, seats []uint64, want ...uint64) {
	t.Helper()
	if got := finger.Fingers(me, seats...); !slices.Equal(got, want) {
		t.Errorf("%s: Fingers(%d, %d): %d, not %d", what, me, seats, got, want)
	}
}

// hops holds Hop against the one that it should tell.
func hops(t *testing.T, what string, me, to uint64, want uint64, fingers ...uint64) {
	t.Helper()
	if got, is := finger.Hop(me, to, fingers...); got != want || !is {
		t.Errorf("%s: Hop(%d, %d, %d): %d, %t, not %d", what, me, to, fingers, got, is, want)
	}
}

// hopsNot holds Hop against a false and the point 0.
func hopsNot(t *testing.T, what string, me, to uint64, fingers ...uint64) {
	t.Helper()
	if got, is := finger.Hop(me, to, fingers...); got != 0 || is {
		t.Errorf("%s: Hop(%d, %d, %d): %d, %t", what, me, to, fingers, got, is)
	}
}

// hopsSlow holds Hop against the slow one.
func hopsSlow(t *testing.T, what string, me, to uint64, fingers ...uint64) {
	t.Helper()
	want, is := slowHop(me, to, fingers)
	if !is {
		hopsNot(t, what, me, to, fingers...)
		return
	}
	hops(t, what, me, to, want, fingers...)
}

// goes holds Way against the places that it should tell.
func goes(t *testing.T, what string, me, to uint64, seats []uint64, want ...uint64) {
	t.Helper()
	got, is := finger.Way(me, to, seats...)
	if !slices.Equal(got, want) || !is {
		t.Errorf("%s: Way(%d, %d, %d): %d, %t, not %d", what, me, to, seats, got, is, want)
	}
}

// goesNot holds Way against a false, and nothing beside it.
func goesNot(t *testing.T, what string, me, to uint64, seats ...uint64) {
	t.Helper()
	if got, is := finger.Way(me, to, seats...); len(got) != 0 || is {
		t.Errorf("%s: Way(%d, %d, %d): %d, %t", what, me, to, seats, got, is)
	}
}

// goesRight holds Way against all that is promised of it, of a me that is one of seats; it tells how many hops it has.
func goesRight(t *testing.T, what string, me, to uint64, seats ...uint64) int {
	t.Helper()
	got, is := finger.Way(me, to, seats...)
	if len(got) == 0 || got[0] != me || !is {
		t.Errorf("%s: Way(%d, %d) of %d seats: %d, %t", what, me, to, len(seats), got, is)
		return 0
	}
	for n, at := range got {
		next, on := finger.Hop(at, to, finger.Fingers(at, seats...)...)
		if last := n == len(got)-1; on == last || on && next != got[n+1] {
			t.Errorf("%s: Way(%d, %d) of %d seats: %d, where the Hop of %d is %d, %t", what, me, to, len(seats), got, at, next, on)
		}
	}
	nearest := slices.MinFunc(seats, func(a, b uint64) int {
		if steps(a, to) < steps(b, to) {
			return -1
		}
		return 1
	})
	if last := got[len(got)-1]; last != nearest {
		t.Errorf("%s: Way(%d, %d) of %d seats: it ends at %d, not at %d", what, me, to, len(seats), last, nearest)
	}
	if len(got) > 66 {
		t.Errorf("%s: Way(%d, %d) of %d seats: %d hops", what, me, to, len(seats), len(got)-1)
	}
	return len(got) - 1
}

// orders goes through all orders of a list; each is a list of its own.
func orders(list []uint64) iter.Seq[[]uint64] {
	return func(yield func([]uint64) bool) {
		if len(list) < 2 {
			yield(slices.Clone(list))
			return
		}
		for n, one := range list {
			for rest := range orders(slices.Delete(slices.Clone(list), n, n+1)) {
				if !yield(append([]uint64{one}, rest...)) {
					return
				}
			}
		}
	}
}

// sets goes through all lists of some of the points, in their order.
func sets(points []uint64) iter.Seq[[]uint64] {
	return func(yield func([]uint64) bool) {
		for set := range 1 << len(points) {
			var list []uint64
			for n, p := range points {
				if set&(1<<n) != 0 {
					list = append(list, p)
				}
			}
			if !yield(list) {
				return
			}
		}
	}
}

// places are points to begin at: ordinary ones, those at both ends of the ring, and in the middle of it.
func places() []uint64 {
	return []uint64{0, 1, 2, 7, 1000, 1 << 32, 1<<63 - 1, 1 << 63, 1<<63 + 1, end - 1000, end - 1, end}
}

// dice draws numbers, the same ones for the same beginning each time.
type dice uint64

// roll tells a number.
func (d *dice) roll() uint64 {
	*d = *d*6364136223846793005 + 1442695040888963407
	return uint64(*d>>32) | uint64(*d)<<32
}

// of tells a number from 0 on, below most.
func (d *dice) of(most int) int {
	return int(d.roll() & math.MaxInt32 % uint64(most))
}

// seats tells so many points, that far from one another or nearer, from some point on.
func (d *dice) seats(count int, most uint64) (all []uint64) {
	at := d.roll()
	for range count {
		at += d.roll()%most + 1
		all = append(all, at)
	}
	return all
}
