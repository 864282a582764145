package give_test

import (
	"strconv"
	"strings"
	"testing"

	"rosary/api"
)

// asks are one ask of each operation for a key.
func asks(k string) []api.Ask {
	return []api.Ask{
		{Op: api.Get, Key: k},
		{Op: api.Put, Key: k, Value: "new"},
		{Op: api.Del, Key: k},
		{Op: api.Scan, Key: k, Most: 9},
	}
}

// In the Steps 1 to 3 nothing in the arc is read or written.
func TestP1503Inside(t *testing.T) {
	for step := 1; step <= 3; step++ {
		h, g := in(t, step)
		for _, k := range []string{"c", "d", "dd", "h", "j", "jzzzzzzzzzzzzzzz"} {
			for _, a := range asks(k) {
				told := h.Do(a)
				is(t, "ask "+strconv.Itoa(a.Op)+" of "+k+" in Step "+strconv.Itoa(step), told.Errno, api.ErrBusy)
				is(t, "items beside an error", len(told.Items), 0)
			}
		}
		has(t, "in Step "+strconv.Itoa(step), h, "b-p@4", "b bb c d e f g h k m")
		is(t, "Step", g.Step(), step)
	}
}

// Beside the arc all goes on in each step; a scan ends where the arc begins.
func TestP1503Beside(t *testing.T) {
	for step := 1; step <= 5; step++ {
		what := "in Step " + strconv.Itoa(step)
		h, _ := in(t, step)
		for _, k := range []string{"b", "bz", "k", "o"} {
			is(t, what+": Put of "+k, put(h, k, "new"), api.OK)
			is(t, what+": Get of "+k, get(h, k).Value, "new")
			is(t, what+": Del of "+k, del(h, k), api.OK)
			is(t, what+": Get of no "+k, get(h, k).Errno, api.ErrNone)
		}
		isText(t, what+": items", strings.Trim(strings.ReplaceAll(keys(h.Items()), "c d e f g h ", ""), " "), "bb m")
		told := scan(h, "b", "")
		switch step {
		case 5:
			isText(t, what+": Scan", keys(told.Items), "bb c d e f g h m")
		default:
			isText(t, what+": Scan", keys(told.Items), "bb")
			isText(t, what+": Next", told.Next, "c")
			is(t, what+": More", told.More, true)
		}
		isText(t, what+": Scan behind it", keys(scan(h, "k", "").Items), "m")
	}
}

// Behind the end the arc is another one's in Step 4, and here as it was in Step 5.
func TestP1503Over(t *testing.T) {
	h, _ := in(t, 4)
	for _, k := range []string{"c", "d", "j"} {
		for _, a := range asks(k) {
			told := h.Do(a)
			is(t, "ask of "+k+" in Step 4", told.Errno, api.ErrElse)
			is(t, "where it went", told.Node, to)
		}
	}
	h, _ = in(t, 5)
	for _, a := range asks("d") {
		is(t, "ask of d in Step 5", h.Do(a).Errno, api.OK)
	}
	is(t, "the Put and the Del were done", get(h, "d").Errno, api.ErrNone)
}

// The pointer to where it went stays for Forward ticks.
func TestP1503Pointer(t *testing.T) {
	h, _ := in(t, 4)
	for range api.Forward - 1 {
		h.Tick()
	}
	is(t, "where it went", get(h, "d").Node, to)
	h.Tick()
	is(t, "where it went", get(h, "d").Node, -1)
}

// Ticks do not open what is frozen.
func TestP1503Ticks(t *testing.T) {
	for step := 1; step <= 3; step++ {
		h, _ := in(t, step)
		for range 2 * api.Forward {
			h.Tick()
		}
		is(t, "Get", get(h, "d").Errno, api.ErrBusy)
	}
}

// What the chunks told is what was there at the beginning and what goes at the end.
func TestP1503All(t *testing.T) {
	h := holds(t, "-@4", "a b c d e f g h i j k l m")
	put(h, "e", "2")
	whole := keys(h.Items())
	g := starts(t, h, "c-l")
	var told []string
	for x, n := accept(1), 1; g.Step() < 3; x, n = got(n), n+1 {
		for _, k := range []string{"c", "f", "kz"} {
			is(t, "Put", put(h, k, "lost"), api.ErrBusy)
			is(t, "Del", del(h, k), api.ErrBusy)
		}
		isText(t, "items meanwhile", keys(h.Items()), whole)
		l, _ := g.Got(x)
		told = append(told, strings.Fields(keys(l[0].Items))...)
	}
	isText(t, "told", strings.Join(told, " "), "c d e=2 f g h i j k")
	g.Got(done())
	isText(t, "what is left", keys(h.Items()), "a b l m")
}

// drops changes a list of letters in every way.
func drops(l []api.Letter) {
	for n := range l {
		for m := range l[n].Items {
			l[n].Items[m] = api.Item{Key: "x", Value: "x"}
		}
		_ = append(l[n].Items, api.Item{Key: "y"})
		l[n] = api.Letter{Kind: 99}
	}
	_ = append(l, api.Letter{Kind: 98})
}

// What was told may be written over without a change of what is told later, nor of the hold.
func TestP1503Shared(t *testing.T) {
	h := holds(t, "b-p@4", "b c d e f g h i j k")
	g := starts(t, h, "c-k")
	l, _ := g.Got(accept(1))
	kept := l[0].Items
	sends(t, "the first chunk", l, chunk(1, "c d e f"))
	drops(l)
	has(t, "written over", h, "b-p@4", "b c d e f g h i j k")
	l, _ = g.Got(got(1))
	sends(t, "the second chunk", l, chunk(2, "g h i j"))
	isText(t, "the first one's items", keys(kept), "x x x x")
	drops(l)
	l, _ = g.Got(got(2))
	sends(t, "the promise", l, commit("c-k", 5))
	drops(l)
	gets(t, "Done", g, done(), 4)
	has(t, "Done", h, "b-c@4 k-p@4", "b k")

	h, g = in(t, 1)
	l, _ = g.Stop()
	drops(l)
	ignores(t, "behind a Stop", g, accept(1))
	has(t, "Stop", h, "b-p@4", "b bb c d e f g h k m")
}

// What is handed in is not kept and not written into.
func TestP1503HandedIn(t *testing.T) {
	h, g := in(t, 1)
	x := accept(1)
	x.Items = []api.Item{{Key: "q", Value: "q"}}
	x.Told.Items = []api.Item{{Key: "r", Value: "r"}}
	l, _ := g.Got(x)
	sends(t, "Accept with items", l, chunk(1, "c d e f"))
	isText(t, "what was handed in", keys(x.Items)+" "+keys(x.Told.Items), "q r")
	clear(x.Items)
	gets(t, "Got 1", g, got(1), 2, chunk(2, "g h"))
	has(t, "the hold", h, "b-p@4", "b bb c d e f g h k m")
}

// Where another hand opened the arc, the transfer ends by its own steps all the same.
func TestP1503Thawed(t *testing.T) {
	h, g := in(t, 3)
	h.Thaw()
	gets(t, "Done", g, done(), 4)
	has(t, "nothing was frozen to be lost", h, "b-p@4", "b bb c d e f g h k m")
	h, g = in(t, 2)
	h.Thaw()
	stops(t, "Stop", g, true, 5)
	is(t, "nothing is frozen", free(h), true)
}
