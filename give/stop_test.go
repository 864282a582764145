package give_test

import (
	"strconv"
	"testing"

	"rosary/api"
	"rosary/give"
)

// In Steps 1 and 2 a Stop leaves all as it was, and tells so.
func TestP1502Stop(t *testing.T) {
	for _, step := range []int{1, 2} {
		what := "Stop in Step " + strconv.Itoa(step)
		h, g := in(t, step)
		stops(t, what, g, true, 5)
		has(t, what, h, "b-p@4", "b bb c d e f g h k m")
		is(t, what+": nothing is frozen", free(h), true)
		is(t, what+": Get", get(h, "d").Value, "d")
		is(t, what+": Put", put(h, "d", "new"), api.OK)
		is(t, what+": Del", del(h, "e"), api.OK)
		stops(t, what+", twice", g, false, 5)
		ignores(t, what+", Accept", g, accept(1))
		ignores(t, what+", Got", g, got(1))
		ignores(t, what+", Done", g, done())
		has(t, what+", behind it", h, "b-p@4", "b bb c d=new f g h k m")
	}
}

// Between two chunks, and with the last one under way, it may still be stopped.
func TestP1502StopBetween(t *testing.T) {
	h, g := in(t, 2)
	g.Got(got(1))
	stops(t, "the last chunk went", g, true, 5)
	has(t, "the last chunk went", h, "b-p@4", "b bb c d e f g h k m")
	ignores(t, "its Got", g, got(2))
	is(t, "Step", g.Step(), 5)
}

// What was promised, or is over, is not stopped.
func TestP1502StopNot(t *testing.T) {
	for _, step := range []int{3, 4, 5} {
		what := "Stop in Step " + strconv.Itoa(step)
		h, g := in(t, step)
		arcs, all := spell(h.Arcs()), keys(h.Items())
		stops(t, what, g, false, step)
		stops(t, what+", twice", g, false, step)
		has(t, what, h, arcs, all)
		is(t, what+": nothing is frozen", free(h), step > 3)
	}
	h, g := in(t, 3)
	g.Stop()
	gets(t, "Done behind a Stop", g, done(), 4)
	has(t, "Done behind a Stop", h, "b-c@4 k-p@4", "b bb k m")
	stops(t, "behind Done", g, false, 4)
}

// A Stop of one that is over does not open what another one froze.
func TestP1502StopOther(t *testing.T) {
	h, g := in(t, 5)
	next := starts(t, h, "d-f")
	stops(t, "the first one", g, false, 5)
	is(t, "what the second one froze", get(h, "d").Errno, api.ErrBusy)
	stops(t, "the second one", next, true, 5)
	is(t, "what the second one froze", get(h, "d").Errno, api.OK)
}

// Where there are no items, the first Accept is the last time that it might have been stopped.
func TestP1502StopNoItems(t *testing.T) {
	h := holds(t, "b-p@4", "b k")
	g := starts(t, h, "c-k")
	g.Got(accept(1))
	stops(t, "promised", g, false, 3)
	is(t, "it is frozen", get(h, "d").Errno, api.ErrBusy)
}

// Step tells how far it is, Id the number that was handed in, in each step.
func TestP1502StepId(t *testing.T) {
	for step := 1; step <= 5; step++ {
		_, g := in(t, step)
		for range 2 {
			is(t, "Step", g.Step(), step)
			is(t, "Id", g.Id(), id)
		}
	}
	_, g := in(t, 1)
	for n, x := range []api.Letter{accept(1), got(1), got(2), done()} {
		g.Got(x)
		is(t, "Step behind letter "+strconv.Itoa(n), g.Step(), []int{2, 2, 3, 4}[n])
	}
}

// Two transfers of two holds know nothing of one another.
func TestP1502Two(t *testing.T) {
	h, g := in(t, 2)
	other := holds(t, "b-p@9", "c d")
	second, _, _ := give.Start(other, span("b-e"), to, me, id)
	is(t, "Step", g.Step(), 2)
	second.Stop()
	is(t, "Step", g.Step(), 2)
	is(t, "the second one's Step", second.Step(), 5)
	is(t, "what the first one froze", get(h, "d").Errno, api.ErrBusy)
	is(t, "what the second one froze", get(other, "d").Errno, api.OK)
}
