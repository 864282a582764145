package seat_test

import (
	"slices"
	"strconv"
	"testing"

	"rosary/api"
	"rosary/seat"
)

func TestP1001Mix(t *testing.T) {
	for _, c := range []struct{ v, want uint64 }{
		{0, 0xe220a8397b1dcdaf},
		{1, 0x910a2dec89025cc1},
		{end, 0xe4d971771b652c20},
		{1234567, 6457827717110365317},
		{added, 0x6e789e6aa1b965f4}, // behind it the steps of one number behind the other, as they are widely told
		{0x3c6ef372fe94f82a, 0x06c45d188009454f},
	} {
		if got := seat.Mix(c.v); got != c.want {
			t.Errorf("Mix(%#x): %#x, not %#x", c.v, got, c.want)
		}
	}
	v := uint64(1234567)
	for _, want := range []uint64{6457827717110365317, 3203168211198807973, 9817491932198370423, 4593380528125082431, 16408922859458223821} {
		if got := seat.Mix(v); got != want {
			t.Errorf("Mix(%d): %d, not %d", v, got, want)
		}
		v += added
	}
}

// TestP1001MixRound: numbers at which each of the steps goes round, and at which it does not.
func TestP1001MixRound(t *testing.T) {
	twice := thenBy
	twice += thenBy // at 64 bits
	for _, c := range []struct {
		what string
		v    uint64
		want uint64
		went turns
	}{
		{"the sum is the greatest that fits", end - added, seat.Mix(end - added), turns{false, true, true}},
		{"the sum comes to 0", end - added + 1, 0, turns{true, false, false}},
		{"the sum comes to 1", end - added + 2, seat.Mix(end - added + 2), turns{true, false, true}},
		{"the first product is of 2", end - added + 3, seat.Mix(end - added + 3), turns{true, true, true}},
		{"the first product comes to 1", unthen(1), thenBy ^ thenBy>>31, turns{unthen(1) > end-added, true, false}},
		{"the first product comes to 2", unthen(2), twice ^ twice>>31, turns{unthen(2) > end-added, true, true}},
		{"the second product comes to 1", unmix(1), 1, turns{unmix(1) > end-added, true, true}},
		{"the greatest answer", unmix(end), end, turns{unmix(end) > end-added, true, true}},
		{"the answer 0", unmix(0), 0, turns{true, false, false}},
	} {
		want, went := slowMix(c.v)
		if got := seat.Mix(c.v); got != want || got != c.want {
			t.Errorf("%s: Mix(%d): %d, not %d, nor %d", c.what, c.v, got, want, c.want)
		}
		if went != c.went {
			t.Errorf("%s: what goes round is %+v, not %+v", c.what, went, c.went)
		}
	}
}

// TestP1001MixAll: each bit alone, all that are near an end or a power of 2, and numbers of all kinds.
func TestP1001MixAll(t *testing.T) {
	var all []uint64
	for bit := range 64 {
		for near := range uint64(5) {
			all = append(all, 1<<bit-2+near, added<<bit-2+near, end>>bit-near, ^(uint64(1) << bit), end-added-2+near)
		}
	}
	d := dice(1)
	for range 5000 {
		all = append(all, d.roll())
	}
	for _, v := range all {
		want, _ := slowMix(v)
		if got := seat.Mix(v); got != want {
			t.Fatalf("Mix(%d): %d, not %d", v, got, want)
		}
		if back := unmix(want); back != v { // or the tests below would look at other points
			t.Fatalf("the number whose Mix is %d: %d, not %d", want, back, v)
		}
	}
}

func TestP1001Seats(t *testing.T) {
	for _, c := range []struct {
		id, salt int
		want     []uint64
	}{
		{0, 0, []uint64{seat.Mix(0), seat.Mix(1), seat.Mix(2), seat.Mix(3)}},
		{3, 5, []uint64{seat.Mix(3_039_604), seat.Mix(3_039_605), seat.Mix(3_039_606), seat.Mix(3_039_607)}},
		{1, 0, []uint64{seat.Mix(1_000_003), seat.Mix(1_000_004), seat.Mix(1_000_005), seat.Mix(1_000_006)}},
		{0, 1, []uint64{seat.Mix(7_919), seat.Mix(7_920), seat.Mix(7_921), seat.Mix(7_922)}},
		{-1, 0, []uint64{seat.Mix(end - 1_000_002), seat.Mix(end - 1_000_001), seat.Mix(end - 1_000_000), seat.Mix(end - 999_999)}},
		{0, -1, []uint64{seat.Mix(end - 7_918), seat.Mix(end - 7_917), seat.Mix(end - 7_916), seat.Mix(end - 7_915)}},
		{7_919, -1_000_003, []uint64{seat.Mix(0), seat.Mix(1), seat.Mix(2), seat.Mix(3)}}, // both together come to 0
	} {
		if got := seat.Seats(c.id, c.salt); !slices.Equal(got, c.want) {
			t.Errorf("Seats(%d, %d): %d, not %d", c.id, c.salt, got, c.want)
		}
	}
}

// TestP1001SeatsEach: every k, of ids and salts of all kinds, by whole numbers.
func TestP1001SeatsEach(t *testing.T) {
	rounds := 0
	for _, id := range ends() {
		for _, salt := range ends() {
			want, went := slowSeats(id, salt)
			got := seat.Seats(id, salt)
			if len(got) != api.MaxSeats {
				t.Fatalf("Seats(%d, %d): %d of them", id, salt, len(got))
			}
			for k := range api.MaxSeats {
				if got[k] != want[k] {
					t.Errorf("Seats(%d, %d), k %d: %d, not %d", id, salt, k, got[k], want[k])
				}
				if went[k] {
					rounds++
				}
			}
		}
	}
	if rounds == 0 || rounds == len(ends())*len(ends())*api.MaxSeats {
		t.Errorf("%d sums go round", rounds)
	}
	for id := range 2 * api.MaxNodes {
		for salt := range 100 {
			if want, _ := slowSeats(id, salt); !slices.Equal(seat.Seats(id, salt), want) {
				t.Errorf("Seats(%d, %d): %d, not %d", id, salt, seat.Seats(id, salt), want)
			}
		}
	}
}

// TestP1001SeatsRound: the sum goes round at the first, second, third and fourth k, and behind all of them.
func TestP1001SeatsRound(t *testing.T) {
	for behind := range uint64(api.MaxSeats + 1) {
		first := end - behind + 1
		id, salt := int(first*inverse(idBy)), int(first*inverse(saltBy))
		var want []uint64
		for k := range uint64(api.MaxSeats) {
			if k < behind {
				want = append(want, seat.Mix(end-behind+1+k))
				continue
			}
			want = append(want, seat.Mix(k-behind))
		}
		what := "at k " + strconv.FormatUint(behind, 10)
		if got := seat.Seats(id, 0); !slices.Equal(got, want) {
			t.Errorf("%s: Seats(%d, 0): %d, not %d", what, id, got, want)
		}
		if got := seat.Seats(0, salt); !slices.Equal(got, want) {
			t.Errorf("%s: Seats(0, %d): %d, not %d", what, salt, got, want)
		}
	}
}

// TestP1001SeatsAt: seats at the ends of the ring, for each k.
func TestP1001SeatsAt(t *testing.T) {
	for k := range api.MaxSeats {
		for _, point := range []uint64{0, 1, end, end - 1, 1 << 63} {
			for _, salt := range []int{0, 1, -5} {
				id := idOf(point, k, salt)
				if got := seat.Seats(id, salt); len(got) != api.MaxSeats || got[k] != point {
					t.Errorf("Seats(%d, %d): %d, the one of k %d not %d", id, salt, got, k, point)
				}
			}
		}
	}
}

// TestP1001SeatsOwn: what was told shares no memory with what is told later.
func TestP1001SeatsOwn(t *testing.T) {
	want, _ := slowSeats(3, 5)
	first := seat.Seats(3, 5)
	kept := seat.Seats(3, 5)
	full := first[:cap(first)]
	for n := range full {
		full[n] = 77
	}
	_ = append(first, 88, 99)
	if got := seat.Seats(3, 5); !slices.Equal(got, want) {
		t.Errorf("when what was told is turned: %d, not %d", got, want)
	}
	picks(t, "when what was told is turned", 3, 5, want[0])
	seat.Seats(4, 5)
	seat.Pick(3, 5, 1, 2, 3)
	if !slices.Equal(kept, want) {
		t.Errorf("what was told: %d, not %d", kept, want)
	}
}

func TestP1001Far(t *testing.T) {
	for _, c := range []struct{ a, b, want uint64 }{
		{5, 3, end - 1}, // the document's
		{3, 5, 2},
		{7, 7, 0},
		{0, 0, 0},
		{end, end, 0},
		{1 << 63, 1 << 63, 0},
		{7, 8, 1}, // just ahead
		{7, 6, end},
		{0, 1, 1},
		{1, 0, end},
		{0, end, end}, // around 0
		{end, 0, 1},
		{end, 1, 2},
		{end - 1, 0, 2},
		{end - 1, 1, 3},
		{1, end, end - 1},
		{end, end - 1, end},
		{end - 1, end, 1},
		{0, 1 << 63, 1 << 63},
		{1 << 63, 0, 1 << 63},
		{1 << 63, end, 1<<63 - 1},
		{1<<63 - 1, 1 << 63, 1},
		{1 << 63, 1<<63 - 1, end},
		{1<<63 + 1, 1, 1 << 63},
	} {
		if got := seat.Far(c.a, c.b); got != c.want {
			t.Errorf("Far(%d, %d): %d, not %d", c.a, c.b, got, c.want)
		}
	}
}

// TestP1001FarWay: as many steps up as Far says lead from one to the other, and both ways together go once round.
func TestP1001FarWay(t *testing.T) {
	for _, from := range []uint64{0, 1, 9, 1<<63 - 3, 1 << 63, end - 9, end} {
		at := from
		for steps := range uint64(20) {
			if got := seat.Far(from, at); got != steps {
				t.Errorf("Far(%d, %d): %d, not %d", from, at, got, steps)
			}
			back := uint64(0)
			if steps > 0 {
				back = end - steps + 1
			}
			if got := seat.Far(at, from); got != back {
				t.Errorf("Far(%d, %d): %d, not %d", at, from, got, back)
			}
			at++
		}
	}
}
