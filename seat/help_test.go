package seat_test

import (
	"math"
	"math/big"
	"slices"
	"testing"

	"rosary/api"
	"rosary/seat"
)

const end = math.MaxUint64 // the last point of the ring

// The chapter's numbers.
const (
	added   uint64 = 11400714819323198485
	firstBy uint64 = 13787848793156543929
	thenBy  uint64 = 10723151780598845931
	idBy    uint64 = 1_000_003
	saltBy  uint64 = 7_919
)

// round tells a number at 64 bits, and whether it was more than they hold, or below 0.
func round(n *big.Int) (*big.Int, bool) {
	all := new(big.Int).Lsh(big.NewInt(1), 64)
	at := new(big.Int).Mod(n, all)
	return at, at.Cmp(n) != 0
}

// turns says of Mix of a number which of its three steps went round.
type turns struct{ sum, first, then bool }

// slowMix is Mix by whole numbers, of which each step is brought to 64 bits.
func slowMix(v uint64) (uint64, turns) {
	wide := func(n uint64) *big.Int { return new(big.Int).SetUint64(n) }
	fold := func(x *big.Int, by uint) *big.Int { return new(big.Int).Xor(x, new(big.Int).Rsh(x, by)) }
	var went turns
	x, sum := round(new(big.Int).Add(wide(v), wide(added)))
	x, first := round(new(big.Int).Mul(fold(x, 30), wide(firstBy)))
	x, then := round(new(big.Int).Mul(fold(x, 27), wide(thenBy)))
	went = turns{sum, first, then}
	return fold(x, 31).Uint64(), went
}

// slowSeats is Seats by whole numbers; it tells, too, whether their sums went round.
func slowSeats(id, salt int) (seats []uint64, went []bool) {
	for k := range int64(api.MaxSeats) {
		n := new(big.Int).Mul(big.NewInt(int64(id)), new(big.Int).SetUint64(idBy))
		n.Add(n, new(big.Int).Mul(big.NewInt(int64(salt)), new(big.Int).SetUint64(saltBy)))
		at, is := round(n.Add(n, big.NewInt(k)))
		point, _ := slowMix(at.Uint64())
		seats, went = append(seats, point), append(went, is)
	}
	return seats, went
}

// slowPick looks for the next one of taken by going up through them in their order, and then for the greatest way.
func slowPick(id, salt int, taken []uint64) (uint64, bool) {
	seats := seat.Seats(id, salt)
	if len(taken) == 0 {
		return seats[0], true
	}
	rising := slices.Sorted(slices.Values(taken))
	ways := make([]uint64, len(seats))
	for n, s := range seats {
		at, _ := slices.BinarySearch(rising, s)
		next := rising[at%len(rising)]
		if ways[n] = next - s; next < s {
			ways[n] = end - s + 1 + next // over the end, back to 0, and on
		}
	}
	most := slices.Max(ways)
	if most == 0 {
		return 0, false
	}
	return seats[slices.Index(ways, most)], true
}

// inverse tells what an odd number is to be taken times for 1 at 64 bits.
func inverse(odd uint64) uint64 {
	n := odd // right in its 3 lowest bits; each round makes them twice as many
	for range 5 {
		n *= 2 - odd*n
	}
	return n
}

// unfold tells the x whose x xor (x shifted right) is y.
func unfold(y uint64, by uint) uint64 {
	x := y
	for range 64 {
		x = y ^ x>>by
	}
	return x
}

// unthen tells whose number it is that is x when the first product is done.
func unthen(x uint64) uint64 {
	return unfold(x*inverse(firstBy), 30) - added
}

// unmix tells the number whose Mix is a point.
func unmix(point uint64) uint64 {
	return unthen(unfold(unfold(point, 31)*inverse(thenBy), 27))
}

// idOf tells whose id, with this salt, has a seat of that k at a point.
func idOf(point uint64, k int, salt int) int {
	return int((unmix(point) - uint64(k) - uint64(salt)*saltBy) * inverse(idBy))
}

// ends are the ids and salts that the tests put together: around 0, ordinary, and at both ends of an int.
func ends() []int {
	all := []int{0, 1, 2, 3, 5, 15, 16, 1000, 7919, 1_000_003, -1, -2, -3, -100}
	return append(all, math.MaxInt, math.MaxInt-1, math.MinInt, math.MinInt+1, math.MaxInt/2, math.MinInt/2, math.MaxInt32, math.MinInt32, math.MaxUint32, 1<<32)
}

// picks holds Pick against the seat that should be told.
func picks(t *testing.T, what string, id, salt int, want uint64, taken ...uint64) {
	t.Helper()
	if got, is := seat.Pick(id, salt, taken...); got != want || !is {
		t.Errorf("%s: Pick(%d, %d, %v): %d, %t, not %d", what, id, salt, taken, got, is, want)
	}
}

// picksNone holds Pick against a false and the point 0.
func picksNone(t *testing.T, what string, id, salt int, taken ...uint64) {
	t.Helper()
	if got, is := seat.Pick(id, salt, taken...); got != 0 || is {
		t.Errorf("%s: Pick(%d, %d, %v): %d, %t", what, id, salt, taken, got, is)
	}
}

// picksSlow holds Pick against the slow one.
func picksSlow(t *testing.T, what string, id, salt int, taken ...uint64) {
	t.Helper()
	want, is := slowPick(id, salt, taken)
	if !is {
		picksNone(t, what, id, salt, taken...)
		return
	}
	picks(t, what, id, salt, want, taken...)
}

// orders goes through all orders of a list; each is a list of its own.
func orders(list []uint64) func(yield func([]uint64) bool) {
	return func(yield func([]uint64) bool) {
		if len(list) < 2 {
			yield(slices.Clone(list))
			return
		}
		for n, one := range list {
			for rest := range orders(slices.Delete(slices.Clone(list), n, n+1)) {
				if !yield(append([]uint64{one}, rest...)) {
					return
				}
			}
		}
	}
}

// dice draws numbers, the same ones for the same beginning each time.
type dice uint64

// roll tells a number.
func (d *dice) roll() uint64 {
	*d = *d*6364136223846793005 + 1442695040888963407
	return uint64(*d>>32) | uint64(*d)<<32
}

// of tells a number from 0 on, below most.
func (d *dice) of(most int) int {
	return int(d.roll() & math.MaxInt32 % uint64(most))
}
