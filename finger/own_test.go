package finger_test

import (
	"slices"
	"testing"

	"rosary/finger"
)

// spoil writes into a list, up to all that it has room for.
func spoil(list []uint64) {
	full := list[:cap(list)]
	for n := range full {
		full[n] = 77 + uint64(n)
	}
	_ = append(list, 88, 99)
}

// lists are what is handed in: with a room behind them that is the caller's own.
func lists() [][]uint64 {
	return [][]uint64{{}, {5}, {5, 5}, {20, 4, 9, 0, 5}, {9, 5, 9, 1 << 63, end, 5}, {4, 5, 6}}
}

// tells asks for all three calls.
type tells struct {
	fingers, way []uint64
	hop          uint64
	isHop, isWay bool
}

// ask asks all of them, and holds what was handed in against what it was.
func ask(t *testing.T, me, to uint64, list []uint64) (got tells) {
	t.Helper()
	room := append(slices.Clone(list), 1111, 2222, 3333)
	was := slices.Clone(room)
	handed := room[:len(list)]
	stays := func(what string) {
		if !slices.Equal(room, was) {
			t.Errorf("%s(%d, %d, %d) turns what was handed in: %d", what, me, to, list, room)
		}
	}
	got.fingers = finger.Fingers(me, handed...)
	stays("Fingers")
	got.hop, got.isHop = finger.Hop(me, to, handed...)
	stays("Hop")
	got.way, got.isWay = finger.Way(me, to, handed...)
	stays("Way")
	spoil(handed) // this is nothing to what was told
	return got
}

// alike holds what was told against what the slow ones tell.
func alike(t *testing.T, what string, me, to uint64, list []uint64, got tells) {
	t.Helper()
	if want := slowFingers(me, list); !slices.Equal(got.fingers, want) {
		t.Errorf("%s: Fingers(%d, %d): %d, not %d", what, me, list, got.fingers, want)
	}
	if want, is := slowHop(me, to, list); got.hop != want || got.isHop != is {
		t.Errorf("%s: Hop(%d, %d, %d): %d, %t, not %d, %t", what, me, to, list, got.hop, got.isHop, want, is)
	}
	if want, is := slowWay(me, to, list); !slices.Equal(got.way, want) || got.isWay != is {
		t.Errorf("%s: Way(%d, %d, %d): %d, %t, not %d, %t", what, me, to, list, got.way, got.isWay, want, is)
	}
}

// TestP1201Own: what Fingers told is the caller's own, and so is what it and Hop were handed.
func TestP1201Own(t *testing.T) {
	for _, list := range lists() {
		for _, me := range []uint64{5, 9, 0, 6} {
			first := ask(t, me, 20, list)
			alike(t, "asked", me, 20, list, first)
			kept := ask(t, me, 20, list)
			spoil(first.fingers)
			alike(t, "when what was told is turned", me, 20, list, ask(t, me, 20, list))
			alike(t, "what was told ahead of it", me, 20, list, kept)
			ask(t, me+1, 3, append(list, me+1))
			alike(t, "what was told, when others were asked for", me, 20, list, kept)
		}
	}
}

// TestP1202Own: what Way told is the caller's own, and so is what it was handed.
func TestP1202Own(t *testing.T) {
	for _, list := range lists() {
		for _, to := range []uint64{5, 4, 20, end} {
			first := ask(t, 5, to, list)
			alike(t, "asked", 5, to, list, first)
			kept := ask(t, 5, to, list)
			spoil(first.way)
			alike(t, "when what was told is turned", 5, to, list, ask(t, 5, to, list))
			alike(t, "what was told ahead of it", 5, to, list, kept)
			ask(t, 4, to, append(list, 4))
			alike(t, "what was told, when others were asked for", 5, to, list, kept)
		}
	}
}

// TestP1202Whole: a whole list handed on, rising or not, stays, and is told again in the same way.
func TestP1202Whole(t *testing.T) {
	seats := []uint64{20, 0, 9, 4}
	was := slices.Clone(seats)
	for range 3 {
		goes(t, "a whole list", 20, 5, seats, 20, 0, 4)
		knows(t, "a whole list", 9, seats, 20, 0)
		hops(t, "a whole list", 0, 10, 9, seats...)
		if !slices.Equal(seats, was) {
			t.Fatalf("what was handed in is %d, not %d", seats, was)
		}
	}
}
