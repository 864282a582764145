package gate_test

import (
	"testing"

	"rosary/gate"
)

// zero holds all calls that tell against a gate that lets all by.
func zero(t *testing.T, what string, g *gate.Gate) {
	t.Helper()
	isOpen(t, what, g)
	thaws(t, what, g, false)
	sendsNot(t, what, g, 0, 1, 5, 1<<63, end)
	count(t, what, g, 0)
}

func TestP1301Zero(t *testing.T) {
	zero(t, "a zero gate", &gate.Gate{})
	var g gate.Gate
	zero(t, "a variable", &g)
	freezes(t, "a variable", &g, from(5, 9), true)
	g.Point(from(20, 30), 7)
	isShut(t, "a variable", &g, from(5, 9))
	sends(t, "a variable", &g, 7, 20)
	zero(t, "another one", new(gate.Gate))
}

func TestP1301Freeze(t *testing.T) {
	for _, c := range kinds() {
		g := &gate.Gate{}
		freezes(t, c.what, g, c.arc, true)
		isShut(t, c.what, g, c.arc)
		frozen(t, c.what, g, true, c.in...)
		frozen(t, c.what, g, false, c.out...)
		isShut(t, c.what+", asked again", g, c.arc)
	}
}

// TestP1301FreezeTwice: while something is frozen nothing else can be, not even the same.
func TestP1301FreezeTwice(t *testing.T) {
	for _, c := range kinds() {
		for _, other := range kinds() {
			what := c.what + ", then " + other.what
			g := shut(c.arc)
			freezes(t, what, g, other.arc, false)
			freezes(t, what+", again", g, other.arc, false)
			freezes(t, what+", the same", g, c.arc, false)
			isShut(t, what, g, c.arc)
			frozen(t, what, g, true, c.in...)
			frozen(t, what, g, false, c.out...)
			thaws(t, what, g, true)
			isOpen(t, what+", behind Thaw", g)
			freezes(t, what+", behind Thaw", g, other.arc, true)
			isShut(t, what+", behind Thaw", g, other.arc)
			frozen(t, what+", behind Thaw", g, true, other.in...)
			frozen(t, what+", behind Thaw", g, false, other.out...)
		}
	}
}

// TestP1301FreezeAgain: what was opened may be shut again, as often as one likes.
func TestP1301FreezeAgain(t *testing.T) {
	g := &gate.Gate{}
	for range 5 {
		for _, c := range kinds() {
			freezes(t, c.what, g, c.arc, true)
			freezes(t, c.what+", twice", g, c.arc, false)
			frozen(t, c.what, g, true, c.in...)
			frozen(t, c.what, g, false, c.out...)
			thaws(t, c.what, g, true)
		}
	}
}

func TestP1301Thaw(t *testing.T) {
	g := &gate.Gate{}
	thaws(t, "nothing is frozen", g, false)
	thaws(t, "nothing is frozen, again", g, false)
	isOpen(t, "nothing is frozen", g)
	for _, c := range kinds() {
		g = shut(c.arc)
		thaws(t, c.what, g, true)
		isOpen(t, c.what, g)
		frozen(t, c.what, g, false, c.in...)
		thaws(t, c.what+", twice", g, false)
		thaws(t, c.what+", thrice", g, false)
		isOpen(t, c.what+", twice", g)
		freezes(t, c.what+", again", g, c.arc, true)
		thaws(t, c.what+", again", g, true)
	}
}

func TestP1301Frozen(t *testing.T) {
	frozen(t, "a zero gate", &gate.Gate{}, false, 0, 1, 5, 8, 9, 1<<63, end-1, end)
	g := shut(from(5, 9))
	frozen(t, "its first point", g, true, 5)
	frozen(t, "its last point", g, true, 8)
	frozen(t, "its To", g, false, 9)
	frozen(t, "ahead of it", g, false, 4)
	frozen(t, "both ends of the ring", g, false, 0, end)
	g.Thaw()
	frozen(t, "behind Thaw", g, false, 4, 5, 6, 7, 8, 9, 0, end)
	g.Freeze(from(9, 5))
	frozen(t, "over the end", g, true, 9, 0, end, 4)
	frozen(t, "over the end, its To", g, false, 5, 8)
	g.Thaw()
	frozen(t, "over the end, behind Thaw", g, false, 9, 0, end, 4, 5)
	g.Freeze(from(7, 7))
	frozen(t, "the whole ring", g, true, 7, 6, 8, 0, end)
	g.Thaw()
	frozen(t, "the whole ring, behind Thaw", g, false, 7, 6, 8, 0, end)
}

func TestP1301Arc(t *testing.T) {
	isOpen(t, "nothing", &gate.Gate{})
	for _, c := range kinds() {
		g := shut(c.arc)
		isShut(t, c.what, g, c.arc)
		frozen(t, c.what, g, true, c.in...)
		isShut(t, c.what+", behind Frozen", g, c.arc)
		g.Thaw()
		isOpen(t, c.what+", behind Thaw", g)
		isOpen(t, c.what+", behind Thaw, again", g)
	}
}

// TestP1301FreezeStays: neither ticks nor pointers open what is frozen, and what is open they do not shut.
func TestP1301FreezeStays(t *testing.T) {
	for _, c := range kinds() {
		g, open := shut(c.arc), &gate.Gate{}
		for n := range 100 {
			for _, one := range []*gate.Gate{g, open} {
				one.Tick()
				if n%3 == 0 {
					one.Point(c.arc, n)
					one.Point(from(0, 0), n)
				}
			}
			isShut(t, c.what, g, c.arc)
			frozen(t, c.what, g, true, c.in...)
			frozen(t, c.what, g, false, c.out...)
			freezes(t, c.what, g, from(5, 9), false)
			isOpen(t, c.what+", not frozen", open)
			thaws(t, c.what+", not frozen", open, false)
		}
		thaws(t, c.what, g, true)
		isOpen(t, c.what, g)
	}
}
