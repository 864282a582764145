package seat_test

import (
	"slices"
	"strconv"
	"testing"

	"rosary/api"
	"rosary/seat"
)

// nodes are the ids and salts whose seats the tests of Pick look at: ordinary ones, those at both ends of an int, and such as have a seat at an end of the ring.
func nodes() (all [][2]int) {
	for _, id := range []int{0, 1, 3, 15, -1, 1<<63 - 1, -1 << 63} {
		all = append(all, [2]int{id, 0}, [2]int{id, 5}, [2]int{id, -7}, [2]int{id, -1 << 63})
	}
	for k := range api.MaxSeats {
		for _, point := range []uint64{0, 1, end, end - 1} {
			all = append(all, [2]int{idOf(point, k, 5), 5})
		}
	}
	return all
}

// shift moves points up.
func shift(points []uint64, by uint64) []uint64 {
	var all []uint64
	for _, p := range points {
		all = append(all, p+by)
	}
	return all
}

func TestP1002Pick(t *testing.T) {
	a := seat.Seats(3, 5)
	for _, c := range []struct {
		what  string
		taken []uint64
		want  uint64
	}{
		{"the second has the most", []uint64{a[0] + 10, a[1] + 20, a[2] + 5, a[3] + 7}, a[1]},
		{"the third has the most", []uint64{a[0] + 10, a[1] + 20, a[2] + 25, a[3] + 7}, a[2]},
		{"the fourth has the most", []uint64{a[0] + 10, a[1] + 20, a[2] + 25, a[3] + 26}, a[3]},
		{"the first has the most", []uint64{a[0] + 30, a[1] + 20, a[2] + 25, a[3] + 26}, a[0]},
		{"three are alike", []uint64{a[0] + 20, a[1] + 20, a[2] + 5, a[3] + 20}, a[0]},
		{"one is left", []uint64{a[0], a[1], a[3], a[2] + 1}, a[2]},
		{"what is farther does not count", []uint64{a[0] + 1, a[0] + 900, a[1] + 2, a[1] + 3, a[2] + 5, a[2] + 4, a[3] + 900, a[3] + 3}, a[2]},
		{"what is behind does not count", []uint64{a[0] + 1, a[1] + 2, a[1] - 1, a[2] + 1, a[3] + 1}, a[1]},
	} {
		picks(t, c.what, 3, 5, c.want, c.taken...)
		slices.Reverse(c.taken)
		picks(t, c.what+", from behind", 3, 5, c.want, c.taken...)
	}
}

func TestP1002None(t *testing.T) {
	for _, id := range ends() {
		for _, salt := range ends() {
			want, _ := slowSeats(id, salt)
			picks(t, "none taken", id, salt, want[0])
			picks(t, "an empty list", id, salt, want[0], []uint64{}...)
			picks(t, "a list with room", id, salt, want[0], want[:0]...)
		}
	}
	for _, point := range []uint64{0, end} { // beside a true the point 0 is a seat
		id := idOf(point, 0, 5)
		picks(t, "the first at an end of the ring", id, 5, point)
	}
}

// TestP1002One: of one that is taken, the seat that is nearest behind it, going down, has the least room.
func TestP1002One(t *testing.T) {
	for _, n := range nodes() {
		a := seat.Seats(n[0], n[1])
		for k, s := range a {
			picks(t, "just behind k "+strconv.Itoa(k), n[0], n[1], s, s-1)
			picksSlow(t, "at it", n[0], n[1], s)
			if got, is := seat.Pick(n[0], n[1], s); got == s || !is {
				t.Errorf("Pick(%d, %d, %d): %d, %t", n[0], n[1], s, got, is)
			}
			if got, is := seat.Pick(n[0], n[1], s+1); got == s || !is {
				t.Errorf("Pick(%d, %d, %d): %d, %t", n[0], n[1], s+1, got, is)
			}
			picksSlow(t, "just ahead", n[0], n[1], s+1)
		}
		for _, one := range []uint64{0, 1, 9, 1 << 63, end - 1, end} {
			picksSlow(t, "one", n[0], n[1], one)
			rising := slices.Sorted(slices.Values(a))
			at, _ := slices.BinarySearch(rising, one)
			if len(rising) != api.MaxSeats {
				t.Fatalf("Seats(%d, %d): %d", n[0], n[1], a)
			}
			want := rising[at%api.MaxSeats] // the first one at, or above it, has the farthest way round
			if want == one {
				want = rising[(at+1)%api.MaxSeats]
			}
			picks(t, "one", n[0], n[1], want, one)
		}
	}
}

// TestP1002Three: each three of the seats, in every order, leave the fourth.
func TestP1002Three(t *testing.T) {
	for _, n := range nodes() {
		a := seat.Seats(n[0], n[1])
		for k, s := range a {
			for three := range orders(slices.Delete(slices.Clone(a), k, k+1)) {
				picks(t, "three taken", n[0], n[1], s, three...)
				picks(t, "three taken, twice", n[0], n[1], s, append(three, three...)...)
				picks(t, "three taken, and one just ahead", n[0], n[1], s, append(three, s+1)...)
				picks(t, "three taken, and one just behind", n[0], n[1], s, append(three, s-1)...)
				picks(t, "three taken, and many", n[0], n[1], s, append(three, s+5, s+1<<63, s+1, s-1, s-9)...)
			}
			picks(t, "the others just ahead", n[0], n[1], s, append(shift(slices.Delete(slices.Clone(a), k, k+1), 1), s+2)...)
		}
	}
}

// TestP1002All: all of them taken, in every order, tell nothing, whatever else is taken.
func TestP1002All(t *testing.T) {
	for _, n := range nodes() {
		a := seat.Seats(n[0], n[1])
		for four := range orders(a) {
			picksNone(t, "all taken", n[0], n[1], four...)
			picksNone(t, "all taken, twice", n[0], n[1], append(four, four...)...)
			picksNone(t, "all taken, and more behind", n[0], n[1], append(four, 9, 0, end, a[0]+1, a[3]-1)...)
			picksNone(t, "all taken, and more ahead", n[0], n[1], append([]uint64{9, 0, end, a[0] + 1, a[3] - 1}, four...)...)
		}
		picksNone(t, "all taken, and those beside them", n[0], n[1], slices.Concat(shift(a, 1), a, shift(a, end))...)
	}
}

// TestP1002Same: of two, three and four that have the same room, the most, the first of Seats counts.
func TestP1002Same(t *testing.T) {
	for _, n := range nodes() {
		a := seat.Seats(n[0], n[1])
		for set := 1; set < 1<<api.MaxSeats; set++ {
			var taken []uint64
			var want uint64
			for k := api.MaxSeats - 1; k >= 0; k-- {
				if set&(1<<k) == 0 {
					taken = append(taken, a[k]+uint64(k)%3) // of less room, or none
					continue
				}
				taken = append(taken, a[k]+3)
				want = a[k]
			}
			for list := range orders(taken) {
				picks(t, "the same room, set "+strconv.Itoa(set), n[0], n[1], want, list...)
			}
		}
		picks(t, "all with the most room but one", n[0], n[1], a[0], shift(a, 1)...)
		picks(t, "just behind each", n[0], n[1], slowFirst(n[0], n[1], shift(a, end)), shift(a, end)...)
	}
}

// slowFirst is the seat of slowPick.
func slowFirst(id, salt int, taken []uint64) uint64 {
	s, _ := slowPick(id, salt, taken)
	return s
}

// TestP1002Sets: each set of the points at, just behind and just ahead of the seats.
func TestP1002Sets(t *testing.T) {
	for _, n := range [][2]int{{3, 5}, {0, 0}, {-1, 1 << 62}, {idOf(0, 2, 1), 1}, {idOf(end, 1, 0), 0}} {
		a := seat.Seats(n[0], n[1])
		points := slices.Concat(shift(a, end), a, shift(a, 1))
		for set := range 1 << len(points) {
			var taken []uint64
			for at, p := range points {
				if set&(1<<at) != 0 {
					taken = append(taken, p)
				}
			}
			picksSlow(t, "a set", n[0], n[1], taken...)
		}
	}
}

// TestP1002Orders: the order of what is taken, and how often it is told, are nothing to it.
func TestP1002Orders(t *testing.T) {
	a := seat.Seats(3, 5)
	for _, list := range [][]uint64{
		{a[0] + 10, a[1] + 20, a[2] + 5, a[3] + 7, 0, end},
		{a[0], a[1], a[3] + 7, 9, 1 << 63},
		{a[2], a[2], a[2] + 1, a[0], a[1]},
		{a[3] - 1, a[3] + 1, a[3], 5, 6, 7},
	} {
		want, is := slowPick(3, 5, list)
		if !is {
			t.Fatalf("%d: none", list)
		}
		for order := range orders(list) {
			picks(t, "in an order", 3, 5, want, order...)
			picks(t, "with one twice", 3, 5, want, append(order, order[0])...)
		}
	}
}

// TestP1002Many: what may be taken in a ring of many, anywhere on it.
func TestP1002Many(t *testing.T) {
	d := dice(7)
	for round := range 4000 {
		id, salt := d.of(20), d.of(50)
		if round%3 == 0 {
			id, salt = int(d.roll()), int(d.roll())
		}
		a := seat.Seats(id, salt)
		var taken []uint64
		for range d.of(40) {
			switch d.of(4) {
			case 0:
				taken = append(taken, d.roll())
			case 1:
				taken = append(taken, a[d.of(api.MaxSeats)]+uint64(d.of(5))-2)
			case 2:
				taken = append(taken, seat.Seats(d.of(20), d.of(50))[d.of(api.MaxSeats)])
			default:
				taken = append(taken, uint64(d.of(5))-2)
			}
		}
		picksSlow(t, "many", id, salt, taken...)
	}
	long := make([]uint64, 100_000)
	for n := range long {
		long[n] = d.roll()
	}
	picksSlow(t, "very many", 3, 5, long...)
}

// TestP1002Own: what was handed in stays as it was, and what is done to it later is nothing to what was told.
func TestP1002Own(t *testing.T) {
	a := seat.Seats(3, 5)
	for _, list := range [][]uint64{
		{},
		{9, 3, 7},
		{a[3] + 7, a[1] + 20, a[1] + 20, a[0] + 10, a[2] + 5},
		{a[3], a[2], a[1], a[0]},
	} {
		room := append(slices.Clone(list), 77, 88)
		was := slices.Clone(room)
		taken := room[:len(list)]
		got, is := seat.Pick(3, 5, taken...)
		if !slices.Equal(room, was) {
			t.Errorf("Pick turns what was handed in: %d, not %d", room, was)
		}
		want, there := slowPick(3, 5, list)
		for n := range room {
			room[n] = a[0] + uint64(n)
		}
		if again, still := seat.Pick(3, 5, list...); got != want || is != there || again != want || still != there {
			t.Errorf("Pick of %d: %d, %t and %d, %t, not %d, %t", list, got, is, again, still, want, there)
		}
		if now := seat.Seats(3, 5); !slices.Equal(now, a) {
			t.Errorf("Seats behind Pick of %d: %d, not %d", list, now, a)
		}
	}
}
