package finger_test

import (
	"slices"
	"strconv"
	"testing"

	"rosary/finger"
)

func TestP1202Way(t *testing.T) {
	seats := []uint64{0, 4, 9, 20}
	for _, c := range []struct {
		what   string
		me, to uint64
		seats  []uint64
		want   []uint64
	}{
		{"the document's", 0, 10, seats, []uint64{0, 9}},
		{"to me", 0, 0, seats, []uint64{0}},
		{"to me, of others", 9, 9, seats, []uint64{9}},
		{"nothing lies between", 4, 8, seats, []uint64{4}},
		{"nothing lies between, just behind me", 4, 5, seats, []uint64{4}},
		{"nothing lies between, across 0", 20, end, seats, []uint64{20}},
		{"to a seat", 0, 20, seats, []uint64{0, 20}},
		{"to a seat by another one", 20, 4, seats, []uint64{20, 0, 4}},
		{"to a seat across 0", 9, 0, seats, []uint64{9, 0}},
		{"just behind a seat", 20, 5, seats, []uint64{20, 0, 4}},
		{"just ahead of a seat", 20, 3, seats, []uint64{20, 0}},
		{"just ahead of the next seat", 0, 3, seats, []uint64{0}},
		{"just behind the next seat", 0, 5, seats, []uint64{0, 4}},
		{"behind all, ahead of 0", 0, end, seats, []uint64{0, 20}},
		{"round the whole ring", 9, 8, seats, []uint64{9, 0, 4}},
		{"round the whole ring, just ahead of me", 20, 19, seats, []uint64{20, 0, 9}},
		{"round the whole ring, a seat just ahead of me", 5, 4, []uint64{4, 5, 6}, []uint64{5, 4}},
		{"me is the only seat", 5, 4, []uint64{5}, []uint64{5}},
		{"me is the only seat, to me", 5, 5, []uint64{5}, []uint64{5}},
		{"me is the only seat, twice", 5, 9, []uint64{5, 5}, []uint64{5}},
		{"me is the only seat, at 0", 0, end, []uint64{0}, []uint64{0}},
		{"the same seats twice", 20, 5, []uint64{4, 20, 0, 4, 9, 20, 0}, []uint64{20, 0, 4}},
		{"each hop has its own fingers", 0, 7, []uint64{0, 1, 2, 3, 4, 5, 6, 7, 8}, []uint64{0, 4, 6, 7}},
		{"from the greatest point", end, 6, []uint64{end, 0, 1, 2, 3, 4, 5, 6, 7}, []uint64{end, 3, 5, 6}},
		{"across 0", end - 2, 3, []uint64{end - 2, end - 1, end, 0, 1, 2, 3, 4}, []uint64{end - 2, 1, 3}},
	} {
		goes(t, c.what, c.me, c.to, c.seats, c.want...)
		goes(t, c.what+", from behind", c.me, c.to, backwards(c.seats), c.want...)
	}
}

func TestP1202None(t *testing.T) {
	for _, me := range places() {
		for _, to := range append(places(), me+1, me-1) {
			goesNot(t, "no seats", me, to)
			goesNot(t, "an empty list", me, to, []uint64{}...)
			goesNot(t, "me is not one of them", me, to, me+1, me-1)
			goesNot(t, "me is not one of them, to is", me, me+7, me+7)
			goesNot(t, "me is not one of many", me, to, me+1<<63, me+1, me+2, me-1, me+5)
			goes(t, "me is the only one", me, to, []uint64{me}, me)
		}
		goesNot(t, "me is not one of them, to me", me, me, me+1, me-1)
	}
	goesNot(t, "the document's tests", 1, 8, 0, 4, 9, 20)
}

// TestP1202WaySets: each set of the points around 0, from each of them on, to each point there.
func TestP1202WaySets(t *testing.T) {
	points := []uint64{end - 3, end - 2, end - 1, end, 0, 1, 2, 3, 4}
	for seats := range sets(points) {
		for _, me := range points {
			for _, to := range append(points, end-4, 5) {
				want, is := slowWay(me, to, seats)
				if !is {
					goesNot(t, "a set", me, to, seats...)
					continue
				}
				goes(t, "a set", me, to, seats, want...)
			}
		}
	}
}

// TestP1202WayBits: where each point has a seat, a way has a hop for each 1 of the number of steps, the greatest first.
func TestP1202WayBits(t *testing.T) {
	for _, me := range []uint64{0, 9, end - 40, end} {
		var seats []uint64
		for n := range uint64(130) {
			seats = append(seats, me+n)
		}
		for far := range uint64(130) {
			want := []uint64{me}
			for k, at := 7, me; k >= 0; k-- {
				if far&pow(k) != 0 {
					at += pow(k)
					want = append(want, at)
				}
			}
			goes(t, "a seat at each point", me, me+far, seats, want...)
		}
	}
}

// TestP1202WayLongest: half of what is left with each hop, down to the last point: as many hops as there can be.
func TestP1202WayLongest(t *testing.T) {
	for _, me := range places() {
		want := []uint64{me}
		for k := reaches - 1; k >= 0; k-- {
			want = append(want, want[len(want)-1]+pow(k))
		}
		if len(want) != 65 || want[64] != me-1 {
			t.Fatalf("the longest way from %d: %d", me, want)
		}
		goes(t, "the longest way", me, me-1, want, want...)
		for n := range want {
			goes(t, "a beginning of the longest way, "+strconv.Itoa(n), me, want[n], want, want[:n+1]...)
			goesRight(t, "the longest way the other way round", want[n], me, want...)
		}
	}
}

// TestP1202WayMany: drawn seats, near one another and far from one another, to, ahead of and behind each other.
func TestP1202WayMany(t *testing.T) {
	d := dice(14)
	for _, most := range []uint64{1, 2, 5, 1 << 10, 1 << 30, 1 << 50, 1 << 56, 1 << 58} {
		hops := 0
		for range 40 {
			seats := d.seats(d.of(60)+1, most)
			me := seats[d.of(len(seats))]
			for range 5 {
				to := seats[d.of(len(seats))]
				for _, x := range []uint64{to, to - 1, to + 1, me, me - 1, me + 1, d.roll()} {
					hops = max(hops, goesRight(t, "drawn", me, x, seats...))
				}
			}
		}
		if hops < 3 {
			t.Errorf("seats of %d from one another: no way has more than %d hops", most, hops)
		}
	}
}

// TestP1202WayHalves: seats of all distances, near ones within far ones, all of them to all others.
func TestP1202WayHalves(t *testing.T) {
	for _, from := range []uint64{0, end, 1 << 63, 12345} {
		var seats []uint64
		for k := range reaches {
			seats = append(seats, from+pow(k), from-pow(k))
		}
		seats = append(seats, from, from) // 2 to the 63 both ways is the same one twice too
		for _, me := range seats {
			for _, to := range []uint64{from, from + 1, from - 1, from + 1<<40, from - 1<<40 - 1, from + 1<<63, me - 1, me + 1} {
				goesRight(t, "seats of all distances", me, to, seats...)
			}
		}
	}
}

// TestP1202WayFew: of seats that lie alike far from one another a way has few hops.
func TestP1202WayFew(t *testing.T) {
	for k := range 9 {
		var seats []uint64
		for n := range pow(k) {
			seats = append(seats, n*(end/pow(k)))
		}
		seats = slices.Compact(seats)
		for n := range 20 {
			me := seats[n*7%len(seats)]
			to := seats[n*n%len(seats)] + uint64(n)
			if hops := goesRight(t, "alike far", me, to, seats...); hops > k+1 {
				t.Errorf("Way(%d, %d) of %d seats: %d hops", me, to, len(seats), hops)
			}
		}
	}
}

// TestP1202WayGreat: a ring of many seats.
func TestP1202WayGreat(t *testing.T) {
	d := dice(15)
	seats := d.seats(100_000, 1<<46)
	for range 20 {
		me, to := seats[d.of(len(seats))], d.roll()
		got, is := finger.Way(me, to, seats...)
		if !is || len(got) > 66 {
			t.Fatalf("Way(%d, %d): %d, %t", me, to, got, is)
		}
		last := got[len(got)-1]
		for _, s := range seats {
			if steps(s, to) < steps(last, to) {
				t.Errorf("Way(%d, %d): it ends at %d, though %d is nearer", me, to, last, s)
			}
		}
	}
}
