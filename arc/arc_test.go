package arc_test

import (
	"math"
	"slices"
	"testing"

	"rosary/api"
	"rosary/arc"
)

const end = math.MaxUint64 // the last point of the ring

// points are those that the arcs of the tests begin and end at, rising: some side by side, at both ends and between.
// What lies between two of them is in such an arc just where the lower one is.
func points() []uint64 {
	return []uint64{0, 1, 2, 7, 8, 9, 1<<63 - 1, 1 << 63, 1<<63 + 1, end - 2, end - 1, end}
}

// arcs lists all arcs from one of the points to another, or to itself.
func arcs() []api.Arc {
	var all []api.Arc
	for _, from := range points() {
		for _, to := range points() {
			all = append(all, api.Arc{From: from, To: to})
		}
	}
	return all
}

// along goes from an arc's From on, up, over the end back to 0, and stops ahead of its To; it tells the points it comes to.
func along(a api.Arc) []uint64 {
	all := points()
	at := slices.Index(all, a.From)
	var come []uint64
	for {
		come = append(come, all[at])
		at = (at + 1) % len(all)
		if all[at] == a.To {
			return come
		}
	}
}

// missing counts the points of b that are not in a.
func missing(a, b []uint64) int {
	n := 0
	for _, x := range b {
		if !slices.Contains(a, x) {
			n++
		}
	}
	return n
}

func TestP201In(t *testing.T) {
	for _, c := range []struct {
		from, to, x uint64
		want        bool
	}{
		{9, 3, 1, true}, // the document's
		{9, 3, 3, false},
		{9, 3, 2, true},
		{9, 3, 4, false},
		{9, 3, 8, false},
		{9, 3, 9, true},
		{9, 3, 10, true},
		{9, 3, end, true},
		{9, 3, 0, true},
		{3, 9, 2, false},
		{3, 9, 3, true},
		{3, 9, 8, true},
		{3, 9, 9, false},
		{3, 9, 0, false},
		{3, 9, end, false},
		{5, 0, 4, false}, // one that ends at the end
		{5, 0, 5, true},
		{5, 0, end, true},
		{5, 0, 0, false},
		{0, 5, 0, true}, // one that begins at the beginning
		{0, 5, 4, true},
		{0, 5, 5, false},
		{0, 5, end, false},
		{0, end, end - 1, true},
		{0, end, end, false},
		{6, 6, 5, true}, // the whole ring
		{6, 6, 6, true},
		{6, 6, 7, true},
		{6, 6, 0, true},
		{6, 6, end, true},
		{0, 0, 0, true},
		{0, 0, end, true},
		{end, end, end, true},
		{end, end, 0, true},
		{4, 5, 3, false}, // one point
		{4, 5, 4, true},
		{4, 5, 5, false},
		{end, 0, end - 1, false},
		{end, 0, end, true},
		{end, 0, 0, false},
		{end, 1, end, true},
		{end, 1, 0, true},
		{end, 1, 1, false},
		{4, 3, 3, false}, // all but one
		{4, 3, 2, true},
		{0, end, 0, true},
		{1, 0, 0, false},
	} {
		if got := arc.In(api.Arc{From: c.from, To: c.to}, c.x); got != c.want {
			t.Errorf("In({%d, %d}, %d): %v, not %v", c.from, c.to, c.x, got, c.want)
		}
	}
	for _, a := range arcs() {
		come := along(a)
		for _, x := range points() {
			if got, want := arc.In(a, x), slices.Contains(come, x); got != want {
				t.Errorf("In(%v, %d): %v, not %v", a, x, got, want)
			}
		}
	}
}

func TestP201Whole(t *testing.T) {
	for _, a := range arcs() {
		if got, want := arc.Whole(a), len(along(a)) == len(points()); got != want {
			t.Errorf("Whole(%v): %v, not %v", a, got, want)
		}
	}
	if arc.Whole(api.Arc{From: 6, To: 5}) || arc.Whole(api.Arc{From: 0, To: end}) || arc.Whole(api.Arc{From: 1}) {
		t.Error("an arc of all but one point is the whole ring")
	}
}

func TestP201Size(t *testing.T) {
	for _, c := range []struct{ from, to, want uint64 }{
		{3, 9, 6},
		{9, 3, end - 5},
		{4, 5, 1},
		{4, 3, end},
		{5, 0, end - 4},
		{end, 0, 1},
		{end, 1, 2},
		{0, 5, 5},
		{0, end, end},
		{0, 1 << 63, 1 << 63},
		{1 << 63, 0, 1 << 63},
		{0, 0, 0},
		{6, 6, 0},
		{end, end, 0},
	} {
		if got := arc.Size(api.Arc{From: c.from, To: c.to}); got != c.want {
			t.Errorf("Size({%d, %d}): %d, not %d", c.from, c.to, got, c.want)
		}
	}
}

func TestP201Split(t *testing.T) {
	for _, c := range []struct {
		a    api.Arc
		x    uint64
		p, q api.Arc
		is   bool
	}{
		{api.Arc{From: 3, To: 9}, 5, api.Arc{From: 3, To: 5}, api.Arc{From: 5, To: 9}, true},
		{api.Arc{From: 3, To: 9}, 4, api.Arc{From: 3, To: 4}, api.Arc{From: 4, To: 9}, true},
		{api.Arc{From: 3, To: 9}, 8, api.Arc{From: 3, To: 8}, api.Arc{From: 8, To: 9}, true},
		{api.Arc{From: 3, To: 9}, 3, api.Arc{}, api.Arc{}, false},
		{api.Arc{From: 3, To: 9}, 9, api.Arc{}, api.Arc{}, false},
		{api.Arc{From: 3, To: 9}, 2, api.Arc{}, api.Arc{}, false},
		{api.Arc{From: 3, To: 9}, 0, api.Arc{}, api.Arc{}, false},
		{api.Arc{From: 9, To: 3}, 0, api.Arc{From: 9}, api.Arc{To: 3}, true},
		{api.Arc{From: 9, To: 3}, end, api.Arc{From: 9, To: end}, api.Arc{From: end, To: 3}, true},
		{api.Arc{From: 9, To: 3}, 5, api.Arc{}, api.Arc{}, false},
		{api.Arc{From: 9}, 0, api.Arc{}, api.Arc{}, false},
		{api.Arc{From: 9}, end, api.Arc{From: 9, To: end}, api.Arc{From: end}, true},
		{api.Arc{From: 4, To: 5}, 4, api.Arc{}, api.Arc{}, false}, // one point has no second part
		{api.Arc{From: 7, To: 7}, 2, api.Arc{From: 7, To: 2}, api.Arc{From: 2, To: 7}, true},
		{api.Arc{From: 7, To: 7}, 7, api.Arc{}, api.Arc{}, false},
		{api.Arc{From: 7, To: 7}, 0, api.Arc{From: 7}, api.Arc{To: 7}, true},
		{api.Arc{}, 0, api.Arc{}, api.Arc{}, false},
		{api.Arc{}, 1, api.Arc{To: 1}, api.Arc{From: 1}, true},
	} {
		if p, q, is := arc.Split(c.a, c.x); p != c.p || q != c.q || is != c.is {
			t.Errorf("Split(%v, %d): %v, %v, %v, not %v, %v, %v", c.a, c.x, p, q, is, c.p, c.q, c.is)
		}
	}
	for _, a := range arcs() {
		for _, x := range points() {
			p, q, is := arc.Split(a, x)
			switch {
			case is != (slices.Contains(along(a), x) && x != a.From):
				t.Errorf("Split(%v, %d): %v", a, x, is)
			case !is && (p != api.Arc{} || q != api.Arc{}):
				t.Errorf("Split(%v, %d): %v, %v beside false", a, x, p, q)
			case is && !slices.Equal(append(along(p), along(q)...), along(a)):
				t.Errorf("Split(%v, %d): %v, %v", a, x, p, q)
			}
		}
	}
}

func TestP201Join(t *testing.T) {
	for _, c := range []struct {
		a, b, want api.Arc
		is         bool
	}{
		{api.Arc{From: 3, To: 5}, api.Arc{From: 5, To: 9}, api.Arc{From: 3, To: 9}, true},
		{api.Arc{From: 9, To: 1}, api.Arc{From: 1, To: 3}, api.Arc{From: 9, To: 3}, true},
		{api.Arc{From: 9}, api.Arc{To: 3}, api.Arc{From: 9, To: 3}, true},
		{api.Arc{From: 9, To: end}, api.Arc{From: end}, api.Arc{From: 9}, true},
		{api.Arc{From: 7, To: 2}, api.Arc{From: 2, To: 7}, api.Arc{From: 7, To: 7}, true}, // the whole ring comes of it
		{api.Arc{To: 5}, api.Arc{From: 5}, api.Arc{}, true},
		{api.Arc{From: 4, To: 5}, api.Arc{From: 5, To: 6}, api.Arc{From: 4, To: 6}, true},
		{api.Arc{From: 3, To: 5}, api.Arc{From: 6, To: 9}, api.Arc{}, false}, // a point between
		{api.Arc{From: 3, To: 6}, api.Arc{From: 5, To: 9}, api.Arc{}, false},
		{api.Arc{From: 5, To: 9}, api.Arc{From: 3, To: 5}, api.Arc{}, false}, // the other way round
		{api.Arc{From: 3, To: 7}, api.Arc{From: 7, To: 4}, api.Arc{}, false}, // b goes round into a
		{api.Arc{From: 3, To: 7}, api.Arc{From: 7, To: 6}, api.Arc{}, false},
		{api.Arc{From: 3, To: 3}, api.Arc{From: 3, To: 5}, api.Arc{}, false},
		{api.Arc{From: 3, To: 5}, api.Arc{From: 5, To: 5}, api.Arc{}, false},
		{api.Arc{From: 3, To: 3}, api.Arc{From: 3, To: 3}, api.Arc{}, false},
		{api.Arc{}, api.Arc{}, api.Arc{}, false},
	} {
		if j, is := arc.Join(c.a, c.b); j != c.want || is != c.is {
			t.Errorf("Join(%v, %v): %v, %v, not %v, %v", c.a, c.b, j, is, c.want, c.is)
		}
	}
	for _, a := range arcs() {
		for _, b := range arcs() {
			first, then := along(a), along(b)
			apart := missing(first, then) == len(then)
			want, should := api.Arc{}, a.To == b.From && a.From != a.To && b.From != b.To && apart
			if should {
				want = api.Arc{From: a.From, To: b.To}
			}
			if j, is := arc.Join(a, b); j != want || is != should {
				t.Errorf("Join(%v, %v): %v, %v, not %v, %v", a, b, j, is, want, should)
			}
		}
	}
}

func TestP202Within(t *testing.T) {
	for _, c := range []struct {
		a, b api.Arc
		want bool
	}{
		{api.Arc{From: 3, To: 9}, api.Arc{From: 3, To: 9}, true},
		{api.Arc{From: 3, To: 9}, api.Arc{From: 3, To: 4}, true}, // its first point
		{api.Arc{From: 3, To: 9}, api.Arc{From: 8, To: 9}, true}, // its last one
		{api.Arc{From: 3, To: 9}, api.Arc{From: 2, To: 9}, false},
		{api.Arc{From: 3, To: 9}, api.Arc{From: 3, To: 10}, false},
		{api.Arc{From: 3, To: 9}, api.Arc{From: 9, To: 10}, false}, // its end
		{api.Arc{From: 3, To: 9}, api.Arc{From: 8, To: 4}, false},  // round, from inside to inside
		{api.Arc{From: 3, To: 9}, api.Arc{From: 4}, false},
		{api.Arc{From: 3, To: 9}, api.Arc{From: 5, To: 5}, false},
		{api.Arc{From: 3}, api.Arc{From: 4}, true},
		{api.Arc{From: 3}, api.Arc{From: end}, true},
		{api.Arc{From: 3}, api.Arc{From: end, To: 1}, false},
		{api.Arc{From: 3}, api.Arc{}, false},
		{api.Arc{To: 9}, api.Arc{}, false},
		{api.Arc{To: 9}, api.Arc{To: 9}, true},
		{api.Arc{From: 9, To: 3}, api.Arc{To: 3}, true},
		{api.Arc{From: 9, To: 3}, api.Arc{From: 9}, true},
		{api.Arc{From: 9, To: 3}, api.Arc{From: 10, To: 2}, true},
		{api.Arc{From: 9, To: 3}, api.Arc{From: 9, To: 4}, false},
		{api.Arc{From: 9, To: 3}, api.Arc{From: 8, To: 3}, false},
		{api.Arc{From: 9, To: 3}, api.Arc{From: 2, To: 10}, false}, // over the gap, from inside to inside
		{api.Arc{From: 9, To: 3}, api.Arc{From: 9, To: 9}, false},
		{api.Arc{From: 7, To: 7}, api.Arc{From: 5, To: 9}, true}, // over the point where the whole ring begins
		{api.Arc{From: 7, To: 7}, api.Arc{From: 5, To: 5}, true},
		{api.Arc{From: 7, To: 7}, api.Arc{}, true},
		{api.Arc{}, api.Arc{From: 9, To: 3}, true},
		{api.Arc{}, api.Arc{}, true},
		{api.Arc{From: 6, To: 5}, api.Arc{From: 5, To: 6}, false}, // all but one, and that one
		{api.Arc{From: 6, To: 5}, api.Arc{From: 6, To: 5}, true},
	} {
		if got := arc.Within(c.a, c.b); got != c.want {
			t.Errorf("Within(%v, %v): %v, not %v", c.a, c.b, got, c.want)
		}
	}
	for _, a := range arcs() {
		for _, b := range arcs() {
			if got, want := arc.Within(a, b), missing(along(a), along(b)) == 0; got != want {
				t.Errorf("Within(%v, %v): %v, not %v", a, b, got, want)
			}
		}
	}
}

func TestP202Apart(t *testing.T) {
	for _, c := range []struct {
		a, b api.Arc
		want bool
	}{
		{api.Arc{From: 3, To: 5}, api.Arc{From: 5, To: 9}, true}, // side by side
		{api.Arc{From: 3, To: 6}, api.Arc{From: 5, To: 9}, false},
		{api.Arc{From: 3, To: 5}, api.Arc{From: 4, To: 5}, false},
		{api.Arc{From: 4, To: 5}, api.Arc{From: 4, To: 5}, false},
		{api.Arc{From: 2, To: 9}, api.Arc{From: 3, To: 4}, false}, // one within the other
		{api.Arc{From: 9, To: 3}, api.Arc{From: 3, To: 9}, true},
		{api.Arc{From: 9, To: 3}, api.Arc{From: 2, To: 4}, false},
		{api.Arc{From: 9, To: 3}, api.Arc{From: 8, To: 10}, false},
		{api.Arc{From: 9, To: 3}, api.Arc{From: 10, To: 1}, false},
		{api.Arc{From: 9}, api.Arc{To: 9}, true},
		{api.Arc{From: 9}, api.Arc{To: 10}, false},
		{api.Arc{From: end}, api.Arc{To: end}, true},
		{api.Arc{From: end, To: 1}, api.Arc{To: 1}, false},
		{api.Arc{From: 8, To: 4}, api.Arc{From: 3, To: 9}, false}, // they meet at both ends
		{api.Arc{From: 5, To: 5}, api.Arc{From: 8, To: 9}, false},
		{api.Arc{From: 5, To: 5}, api.Arc{From: 7, To: 7}, false},
		{api.Arc{}, api.Arc{}, false},
	} {
		if arc.Apart(c.a, c.b) != c.want || arc.Apart(c.b, c.a) != c.want {
			t.Errorf("Apart(%v, %v): not %v, both ways", c.a, c.b, c.want)
		}
	}
	for _, a := range arcs() {
		for _, b := range arcs() {
			come := along(b)
			if got, want := arc.Apart(a, b), missing(along(a), come) == len(come); got != want {
				t.Errorf("Apart(%v, %v): %v, not %v", a, b, got, want)
			}
		}
	}
}

func TestP202Pieces(t *testing.T) {
	for _, c := range []struct {
		a    api.Arc
		want []api.Arc
	}{
		{api.Arc{From: 3, To: 9}, []api.Arc{{From: 3, To: 9}}},
		{api.Arc{From: 9, To: 3}, []api.Arc{{From: 9}, {To: 3}}},
		{api.Arc{From: 9}, []api.Arc{{From: 9}}},
		{api.Arc{To: 3}, []api.Arc{{To: 3}}},
		{api.Arc{}, []api.Arc{{}}},
		{api.Arc{From: 7, To: 7}, []api.Arc{{From: 7}, {To: 7}}},
		{api.Arc{From: 1, To: 1}, []api.Arc{{From: 1}, {To: 1}}},
		{api.Arc{From: end, To: end}, []api.Arc{{From: end}, {To: end}}},
		{api.Arc{From: end}, []api.Arc{{From: end}}},
		{api.Arc{From: end, To: 1}, []api.Arc{{From: end}, {To: 1}}},
		{api.Arc{To: end}, []api.Arc{{To: end}}},
		{api.Arc{From: 4, To: 5}, []api.Arc{{From: 4, To: 5}}},
		{api.Arc{From: 5, To: 4}, []api.Arc{{From: 5}, {To: 4}}},
	} {
		if got := arc.Pieces(c.a); !slices.Equal(got, c.want) {
			t.Errorf("Pieces(%v): %v, not %v", c.a, got, c.want)
		}
	}
	for _, a := range arcs() {
		var come []uint64
		for _, p := range arc.Pieces(a) {
			part := along(p)
			if !slices.IsSorted(part) {
				t.Errorf("Pieces(%v): %v goes over the end", a, p)
			}
			come = append(come, part...)
		}
		if !slices.Equal(come, along(a)) {
			t.Errorf("Pieces(%v): they go through %v, not %v", a, come, along(a))
		}
	}
}

// TestP202PiecesNew: nobody who writes into an answer changes another one.
func TestP202PiecesNew(t *testing.T) {
	for _, a := range arcs() {
		got, next := arc.Pieces(a), arc.Pieces(a)
		want := slices.Clone(next)
		clear(got[:cap(got)])
		if !slices.Equal(next, want) || !slices.Equal(arc.Pieces(a), want) {
			t.Errorf("Pieces(%v): two answers share memory", a)
		}
	}
}
