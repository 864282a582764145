package gate_test

import (
	"strconv"
	"testing"

	"rosary/api"
	"rosary/gate"
)

func TestP1301Tick(t *testing.T) {
	g := &gate.Gate{}
	for range 100 {
		g.Tick()
		zero(t, "of nothing", g)
	}
	for _, before := range []int{0, 1, 7, 39, 40, 41, 1000} {
		what := "set behind " + strconv.Itoa(before)
		g = &gate.Gate{}
		ticks(g, before)
		g.Point(from(5, 9), 3)
		for n := range api.Forward {
			sends(t, what+", it stays at "+strconv.Itoa(n), g, 3, 5, 8)
			sendsNot(t, what, g, 4, 9)
			count(t, what+", it stays at "+strconv.Itoa(n), g, 1)
			g.Tick()
		}
		for range 100 {
			sendsNot(t, what+", it is gone", g, 4, 5, 6, 8, 9, 0, end)
			count(t, what+", it is gone", g, 0)
			g.Tick()
		}
	}
}

// TestP1301TickJust: it stays for Forward ticks, and not one longer.
func TestP1301TickJust(t *testing.T) {
	for _, c := range kinds() {
		g := &gate.Gate{}
		g.Point(c.arc, 3)
		ticks(g, 39)
		sends(t, c.what+", just stays", g, 3, c.in...)
		count(t, c.what+", just stays", g, 1)
		g.Tick()
		sendsNot(t, c.what+", just gone", g, c.in...)
		count(t, c.what+", just gone", g, 0)
		g.Point(c.arc, 4)
		sends(t, c.what+", set again", g, 4, c.in...)
		ticks(g, 39)
		sends(t, c.what+", set again, just stays", g, 4, c.in...)
		g.Tick()
		sendsNot(t, c.what+", set again, just gone", g, c.in...)
	}
}

// TestP1301TickApart: pointers that were set at unlike ticks go one by one, the eldest first.
func TestP1301TickApart(t *testing.T) {
	g := &gate.Gate{}
	gaps := []int{0, 1, 5, 2, 11, 20}
	when := 0
	for n, gap := range gaps {
		ticks(g, gap)
		when += gap
		g.Point(from(uint64(n*10), uint64(n*10+10)), n)
	}
	for ; when < 100; when++ {
		set, left := 0, 0
		for n, gap := range gaps {
			set += gap
			x := uint64(n*10 + 5)
			if when < set+40 {
				sends(t, "at tick "+strconv.Itoa(when), g, n, x)
				left++
			} else {
				sendsNot(t, "at tick "+strconv.Itoa(when), g, x)
			}
		}
		count(t, "at tick "+strconv.Itoa(when), g, left)
		g.Tick()
	}
	zero(t, "all are gone", g)
}

// TestP1301TickSame: pointers that were set at the same tick go at the same one.
func TestP1301TickSame(t *testing.T) {
	for _, many := range []int{2, 3, 7, 100} {
		g := &gate.Gate{}
		ticks(g, 3)
		for n := range many {
			g.Point(from(uint64(n), uint64(many)), n)
			g.Point(from(1000, 2000), n)
		}
		ticks(g, 39)
		for n := range many {
			sends(t, "they stay", g, n, uint64(n))
		}
		sends(t, "they stay", g, many-1, 1000, 1999)
		count(t, "they stay", g, 2*many)
		g.Tick()
		for n := range many {
			sendsNot(t, "they are gone", g, uint64(n))
		}
		sendsNot(t, "they are gone", g, 1000, 1999)
		count(t, "they are gone", g, 0)
	}
}

// TestP1301TickLater: the later one of two goes not ahead of the elder one, and does not come up again.
func TestP1301TickLater(t *testing.T) {
	for gap := range 45 {
		g := &gate.Gate{}
		g.Point(from(0, 30), 1)
		ticks(g, gap)
		g.Point(from(10, 20), 2)
		for n := range 45 {
			what := "set " + strconv.Itoa(gap) + " apart, behind " + strconv.Itoa(n)
			first, second := gap+n < 40, n < 40
			switch {
			case second:
				sends(t, what, g, 2, 10, 15, 19)
			default:
				sendsNot(t, what, g, 10, 15, 19)
			}
			if first {
				sends(t, what, g, 1, 0, 9, 20, 29)
			} else {
				sendsNot(t, what, g, 0, 9, 20, 29)
			}
			g.Tick()
		}
	}
}

// TestP1301Points: behind each Point and Tick.
func TestP1301Points(t *testing.T) {
	g := &gate.Gate{}
	count(t, "none", g, 0)
	for n := range 200 { // one a tick: as many as there are ticks till one goes
		g.Point(from(uint64(n), 5), n)
		count(t, "behind Point "+strconv.Itoa(n), g, min(n+1, 40))
		g.Tick()
		count(t, "behind Tick "+strconv.Itoa(n), g, min(n+1, 39))
	}
	for n := range 39 {
		count(t, "no more of them", g, 39-n)
		g.Tick()
	}
	count(t, "none any more", g, 0)
	for n := range 1000 { // all at one tick
		g.Point(from(5, 9), n)
		count(t, "at the same tick", g, n+1)
	}
	ticks(g, 39)
	count(t, "at the same tick, they stay", g, 1000)
	g.Where(7)
	g.Freeze(from(5, 9))
	g.Thaw()
	count(t, "at the same tick, asked", g, 1000)
	g.Tick()
	count(t, "at the same tick, gone", g, 0)
}

func TestP1301Nil(t *testing.T) {
	var g *gate.Gate
	freezes(t, "a nil one", g, from(5, 9), false)
	freezes(t, "a nil one", g, from(0, 0), false)
	isOpen(t, "a nil one", g)
	thaws(t, "a nil one", g, false)
	frozen(t, "a nil one", g, false, 0, 5, end)
	g.Point(from(5, 9), 3)
	g.Point(from(0, 0), 4)
	sendsNot(t, "a nil one", g, 0, 5, end)
	count(t, "a nil one", g, 0)
	ticks(g, 50)
	zero(t, "a nil one, behind ticks", g)
}

// TestP1301Drawn: drawn calls, in a drawn order, held against a slow one.
func TestP1301Drawn(t *testing.T) {
	for _, base := range []uint64{0, 100, 1 << 63, end - 5} { // arcs that lie near, and on, the end
		d := dice(base + 16)
		var points []uint64
		for n := range uint64(14) {
			points = append(points, base+n-2)
		}
		for range 15 {
			g, s := &gate.Gate{}, &slow{}
			for range 200 {
				a := from(base+uint64(d.of(12)), base+uint64(d.of(12)))
				what := "drawn"
				switch d.of(6) {
				case 0:
					freezes(t, what, g, a, len(s.frozen) == 0)
					if len(s.frozen) == 0 {
						s.frozen = []api.Arc{a}
					}
				case 1:
					thaws(t, what, g, len(s.frozen) > 0)
					s.frozen = nil
				case 2, 3:
					node := d.of(16)
					g.Point(a, node)
					s.set = append(s.set, put{a, node, s.now})
				default:
					many := d.of(12)
					ticks(g, many)
					s.now += many
				}
				agree(t, what, g, s, points...)
			}
		}
	}
}
