package finger_test

import "testing"

func TestP1201Hop(t *testing.T) {
	for _, c := range []struct {
		what    string
		me, to  uint64
		want    uint64
		fingers []uint64
	}{
		{"between two", 0, 10, 9, []uint64{4, 9, 20}},
		{"behind all", 0, 30, 20, []uint64{4, 9, 20}},
		{"to one", 0, 9, 9, []uint64{4, 9, 20}},
		{"to the first", 0, 4, 4, []uint64{4, 9, 20}},
		{"to the last", 0, 20, 20, []uint64{4, 9, 20}},
		{"just behind one", 0, 10, 9, []uint64{4, 9, 20}},
		{"just ahead of one", 0, 8, 4, []uint64{4, 9, 20}},
		{"just ahead of the last", 0, 19, 9, []uint64{4, 9, 20}},
		{"just behind the first", 0, 5, 4, []uint64{4, 9, 20}},
		{"in no order", 0, 10, 9, []uint64{20, 9, 4, 5, 11, 8}},
		{"the same twice", 0, 10, 9, []uint64{9, 4, 9, 4}},
		{"me among them", 3, 10, 9, []uint64{3, 4, 9, 20, 3}},
		{"just ahead of me", 5, 4, 4, []uint64{4}},
		{"just behind me", 5, 6, 6, []uint64{4, 6}},
		{"nearly round the ring", 5, 4, 3, []uint64{3, 8, 1000}},
		{"across 0", 20, 5, 4, []uint64{0, 4, 9}},
		{"across 0, to 0", 20, 0, 0, []uint64{0, 4, 9}},
		{"across 0, just behind it", 20, 1, 0, []uint64{0, 4, 9}},
		{"across 0, to none behind it", 20, 5, 30, []uint64{9, 25, 30}},
		{"up to the greatest point", 20, end, 30, []uint64{0, 25, 30}},
		{"to the greatest point", 20, end, end, []uint64{0, end, 30}},
		{"from the greatest point", end, 5, 4, []uint64{0, 4, 9}},
		{"from the greatest point to 0", end, 0, 0, []uint64{0, 4, 9}},
		{"from 0 to the greatest point", 0, end, end, []uint64{4, 0, end}},
		{"half of the ring", 5, 1<<63 + 5, 1<<63 + 5, []uint64{6, 1<<63 + 5, 1<<63 + 6}},
		{"more than half of the ring", 5, 3, 2, []uint64{1 << 63, 2, 4, 5, 6}},
	} {
		for list := range orders(c.fingers) {
			hops(t, c.what, c.me, c.to, c.want, list...)
		}
	}
}

func TestP1201HopNone(t *testing.T) {
	for _, me := range places() {
		for _, to := range append(places(), me+1, me-1) {
			hopsNot(t, "no fingers", me, to)
			hopsNot(t, "an empty list", me, to, []uint64{}...)
			hopsNot(t, "me alone", me, to, me, me)
			if to != me-1 {
				hopsNot(t, "all behind to", me, to, to+1, me-1, to+1, me)
			}
		}
		hopsNot(t, "to me", me, me, me-1, me+1, me, me+1<<63, 0, end)
		hopsNot(t, "just ahead of the only one", me, me+4, me+5)
		hopsNot(t, "just ahead of the first", me, me+4, me+5, me+9, me-1)
	}
}

// TestP1201HopAll: each me and to of the points around 0, and each set of fingers there.
func TestP1201HopAll(t *testing.T) {
	points := []uint64{end - 3, end - 2, end - 1, end, 0, 1, 2, 3}
	for fingers := range sets(points) {
		for _, me := range points {
			for _, to := range points {
				hopsSlow(t, "a set", me, to, fingers...)
				hopsSlow(t, "a set from behind", me, to, backwards(fingers)...)
			}
		}
	}
}

// TestP1201HopMany: drawn fingers, near one another and far from one another.
func TestP1201HopMany(t *testing.T) {
	d := dice(13)
	for _, most := range []uint64{1, 3, 100, 1 << 40, 1 << 58, 1 << 61} {
		for range 200 {
			fingers := d.seats(d.of(20)+1, most)
			near := func() uint64 { return fingers[d.of(len(fingers))] + uint64(d.of(3)) - 1 }
			for range 10 {
				hopsSlow(t, "drawn", near(), near(), fingers...)
				hopsSlow(t, "drawn, anywhere", d.roll(), d.roll(), fingers...)
			}
		}
	}
}
