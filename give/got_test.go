package give_test

import (
	"math"
	"strconv"
	"strings"
	"testing"

	"rosary/api"
	"rosary/hold"
)

// kinds are all kinds of letters, and some that are none.
func kinds() (l []int) {
	for n := -1; n <= 20; n++ {
		l = append(l, n)
	}
	return append(l, math.MaxInt, math.MinInt)
}

// An Accept of N 1 brings the first chunk.
func TestP1501Accept(t *testing.T) {
	_, g := in(t, 1)
	gets(t, "Accept", g, accept(1), 2, chunk(1, "c d e f"))
	ignores(t, "Accept twice", g, accept(1))
	ignores(t, "Accept of N 0 in Step 2", g, accept(0))
	gets(t, "Got 1", g, got(1), 2, chunk(2, "g h"))
}

// Where there are no items, an Accept brings the promise at once.
func TestP1501AcceptNoItems(t *testing.T) {
	h := holds(t, "b-p@4", "b k")
	g := starts(t, h, "c-k")
	gets(t, "Accept", g, accept(1), 3, commit("c-k", 5))
	ignores(t, "Accept twice", g, accept(1))
	ignores(t, "Got 0", g, got(0))
	ignores(t, "Got 1", g, got(1))
	gets(t, "Done", g, done(), 4)
	has(t, "Done", h, "b-c@4 k-p@4", "b k")
}

// An Accept of N 0 leaves all as it was.
func TestP1501AcceptNo(t *testing.T) {
	h, g := in(t, 1)
	gets(t, "Accept of N 0", g, accept(0), 5)
	has(t, "Accept of N 0", h, "b-p@4", "b bb c d e f g h k m")
	is(t, "nothing is frozen", free(h), true)
	is(t, "Put", put(h, "d", "new"), api.OK)
	is(t, "Del", del(h, "e"), api.OK)
	ignores(t, "Accept behind it", g, accept(1))
	ignores(t, "Accept of N 0 behind it", g, accept(0))
	has(t, "behind it", h, "b-p@4", "b bb c d=new f g h k m")
}

// An Accept of another N, and whatever else comes in Step 1, brings nothing.
func TestP1501Step1(t *testing.T) {
	for _, n := range []int{2, -1, 3, 6, 256, math.MaxInt, math.MinInt} {
		_, g := in(t, 1)
		ignores(t, "Accept of N "+strconv.Itoa(n), g, accept(n))
		gets(t, "Accept behind that", g, accept(1), 2, chunk(1, "c d e f"))
	}
	h, g := in(t, 1)
	for _, kind := range kinds() {
		for n := -1; n <= 2 && kind != api.KindAccept; n++ {
			ignores(t, "kind "+strconv.Itoa(kind), g, letter(kind, n))
		}
	}
	is(t, "it is frozen", get(h, "d").Errno, api.ErrBusy)
	gets(t, "Accept behind them", g, accept(1), 2, chunk(1, "c d e f"))
}

// A Got of the last chunk's number brings the next one; behind the last one the promise.
func TestP1501Step2(t *testing.T) {
	_, g := in(t, 1)
	g.Got(accept(1))
	for _, n := range []int{0, 2, 3, -1, math.MaxInt, math.MinInt} {
		ignores(t, "Got while 1 went last", g, got(n))
	}
	gets(t, "Got 1", g, got(1), 2, chunk(2, "g h"))
	for _, n := range []int{1, 0, 3, -2} {
		ignores(t, "Got while 2 went last", g, got(n))
	}
	gets(t, "Got 2", g, got(2), 3, commit("c-k", 5))
	for n := range 5 {
		ignores(t, "Got behind the last one", g, got(n))
	}
	gets(t, "Done", g, done(), 4)
}

// Whatever else comes in Step 2 brings nothing.
func TestP1501Step2Else(t *testing.T) {
	h, g := in(t, 2)
	for _, kind := range kinds() {
		for n := -1; n <= 3 && kind != api.KindGot; n++ {
			ignores(t, "kind "+strconv.Itoa(kind), g, letter(kind, n))
		}
	}
	is(t, "it is frozen", get(h, "d").Errno, api.ErrBusy)
	gets(t, "Got behind them", g, got(1), 2, chunk(2, "g h"))
}

// Done brings it to an end: the arc is not owned any more, its items are gone, and who asks for them is sent on.
func TestP1501Done(t *testing.T) {
	h, g := in(t, 3)
	has(t, "ahead of Done", h, "b-p@4", "b bb c d e f g h k m")
	gets(t, "Done", g, done(), 4)
	has(t, "Done", h, "b-c@4 k-p@4", "b bb k m")
	is(t, "nothing is frozen", free(h), true)
	for _, k := range strings.Fields("c d e f g h j") {
		told := get(h, k)
		is(t, "Get", told.Errno, api.ErrElse)
		is(t, "where it went", told.Node, to)
	}
	is(t, "Get beside it", get(h, "k").Errno, api.OK)
	is(t, "Put beside it", put(h, "bc", ""), api.OK)
	ignores(t, "Done twice", g, done())
	has(t, "Done twice", h, "b-c@4 k-p@4", "b bb bc= k m")
}

// A Done may say what it likes beside its kind, sender and number.
func TestP1501DoneWhatever(t *testing.T) {
	_, g := in(t, 3)
	gets(t, "Done", g, api.Letter{Kind: api.KindDone, From: to, To: 99, Id: id, N: 9, Arc: span("x-z"), Epoch: 77, Node: 5, Items: []api.Item{{Key: "x"}}}, 4)
}

// Whatever else comes in Step 3 brings nothing.
func TestP1501Step3(t *testing.T) {
	h, g := in(t, 3)
	for _, kind := range kinds() {
		for n := -1; n <= 3 && kind != api.KindDone; n++ {
			ignores(t, "kind "+strconv.Itoa(kind), g, letter(kind, n))
		}
	}
	has(t, "not given yet", h, "b-p@4", "b bb c d e f g h k m")
	is(t, "it is frozen", get(h, "d").Errno, api.ErrBusy)
	gets(t, "Done behind them", g, done(), 4)
}

// When it is over, whatever comes brings nothing, but for the news that it is over.
func TestP1501Over(t *testing.T) {
	for _, step := range []int{4, 5} {
		h, g := in(t, step)
		arcs, all := spell(h.Arcs()), keys(h.Items())
		// Another one's freeze is not this one's to end, nor its arc to lose.
		h.Freeze(span("k-m"))
		for _, kind := range kinds() {
			for n := -1; n <= 3; n++ {
				ignores(t, "kind "+strconv.Itoa(kind), g, letter(kind, n))
			}
		}
		has(t, "over", h, arcs, all)
		is(t, "what is frozen", get(h, "k").Errno, api.ErrBusy)
	}
}

// Letters of another one, or of another number, bring nothing, and are not told that it is over.
func TestP1501Foreign(t *testing.T) {
	right := map[int][]api.Letter{1: {accept(1), accept(0)}, 2: {got(1)}, 3: {done()}, 4: {done(), got(1)}, 5: {done(), accept(0)}}
	for step, l := range right {
		for _, x := range l {
			what := "kind " + strconv.Itoa(x.Kind) + " in Step " + strconv.Itoa(step)
			h, g := in(t, step)
			arcs, all := spell(h.Arcs()), keys(h.Items())
			for _, from := range []int{me, to + 1, to - 1, 0, -to, math.MaxInt} {
				other := x
				other.From = from
				foreign(t, what+" from "+strconv.Itoa(from), g, other)
			}
			for _, number := range []int{id + 1, id - 1, 0, -id, math.MaxInt} {
				other := x
				other.Id = number
				foreign(t, what+" with Id "+strconv.Itoa(number), g, other)
			}
			foreign(t, what+" of nobody", g, api.Letter{Kind: x.Kind, N: x.N})
			has(t, what, h, arcs, all)
			is(t, what+": nothing is frozen", free(h), step > 3)
		}
	}
}

// To whom a letter goes is not asked: who it comes from, and its number, are.
func TestP1501ToWhom(t *testing.T) {
	for _, whom := range []int{me, to, 0, 99, -1} {
		_, g := in(t, 1)
		for n, x := range []api.Letter{accept(1), got(1), got(2), done()} {
			x.To = whom
			l, _ := g.Got(x)
			is(t, "letter "+strconv.Itoa(n)+": step", g.Step(), []int{2, 2, 3, 4}[n])
			is(t, "letter "+strconv.Itoa(n)+": sent", len(l), []int{1, 1, 1, 0}[n])
		}
	}
}

// letters are all that go behind the offer, in order, till an arc is given.
func letters(t *testing.T, what string, h *hold.Hold, arc string) []api.Letter {
	t.Helper()
	g := starts(t, h, arc)
	l, _ := g.Got(accept(1))
	all := l
	for n := 1; g.Step() == 2; n++ {
		if n > 200 {
			t.Fatal(what + ": no end of chunks")
		}
		l, over := g.Got(got(n))
		is(t, what+": over", over, false)
		is(t, what+": letters at once", len(l), 1)
		all = append(all, l...)
	}
	is(t, what+": Step", g.Step(), 3)
	gets(t, what, g, done(), 4)
	return all
}

// Chunks tell all items in the arc's order, api.Chunk of them in each but the last one, and their numbers rise from 1 on.
func TestP1501Chunks(t *testing.T) {
	for _, c := range []struct {
		what, arcs, keys, arc string
		want                  []api.Letter
	}{
		{"none", "c-k@4", "", "c-k", nil},
		{"one", "c-k@4", "d", "c-k", []api.Letter{chunk(1, "d")}},
		{"three", "c-k@4", "c d e", "c-k", []api.Letter{chunk(1, "c d e")}},
		{"as many as a chunk takes", "c-k@4", "f c d e", "c-k", []api.Letter{chunk(1, "c d e f")}},
		{"one more", "c-k@4", "g f c d e", "c-k", []api.Letter{chunk(1, "c d e f"), chunk(2, "g")}},
		{"two chunks", "c-k@4", "c d e f g h i j", "c-k", []api.Letter{chunk(1, "c d e f"), chunk(2, "g h i j")}},
		{"two chunks and one more", "c-k@4", "c cc d e f g h i j", "c-k", []api.Letter{chunk(1, "c cc d e"), chunk(2, "f g h i"), chunk(3, "j")}},
		{"a part", "c-k@4", "c d e f g h i j", "d-j", []api.Letter{chunk(1, "d e f g"), chunk(2, "h i")}},
		{"over the end", "v-f@4", "a b c d e v w x y z", "w-e", []api.Letter{chunk(1, "w x y z"), chunk(2, "a b c d")}},
		{"over the end, a chunk too", "v-f@4", "a b c d e v w x y z", "x-e", []api.Letter{chunk(1, "x y z a"), chunk(2, "b c d")}},
		{"the whole ring", "-@4", "a b c x y", "-", []api.Letter{chunk(1, "a b c x"), chunk(2, "y")}},
		{"the whole ring from b on", "-@4", "a b c x y", "b-b", []api.Letter{chunk(1, "b c x y"), chunk(2, "a")}},
		{"of unlike epochs", "c-f@4 f-k@4", "c d e f g", "c-k", []api.Letter{chunk(1, "c d e f"), chunk(2, "g")}},
		{"keys that lie at one point", "c-k@4", "cccccccc ccccccccb cccccccca cccccccccc ccccccccbb", "c-k", []api.Letter{chunk(1, "cccccccc cccccccca ccccccccb ccccccccbb"), chunk(2, "cccccccccc")}},
	} {
		want := append(c.want, commit(c.arc, 5))
		sends(t, c.what, letters(t, c.what, holds(t, c.arcs, c.keys), c.arc), want...)
	}
}

// As many items as a node may have, and as long ones, are told: none left out, none twice.
func TestP1501ChunksMany(t *testing.T) {
	h := hold.New(me, api.MaxItems)
	h.Own(api.Arc{}, 8)
	d := dice(15)
	var want []string
	for h.Len() < api.MaxItems {
		k := strings.Repeat(string(rune('a'+d.of(26))), 13) + strconv.Itoa(100+d.of(900))
		if get(h, k).Errno == api.ErrNone {
			is(t, "Put", put(h, k, k), api.OK)
		}
	}
	for _, item := range h.Items() {
		want = append(want, item.Key)
	}
	l := letters(t, "many", h, "-")
	is(t, "letters", len(l), api.MaxItems/api.Chunk+1)
	var told []string
	for n, x := range l[:len(l)-1] {
		is(t, "kind", x.Kind, api.KindChunk)
		is(t, "number", x.N, n+1)
		is(t, "items", len(x.Items), api.Chunk)
		told = append(told, strings.Fields(keys(x.Items))...)
	}
	isText(t, "items", strings.Join(told, " "), strings.Join(want, " "))
	sends(t, "the last one", l[len(l)-1:], commit("-", 9))
	has(t, "Done", h, "", "")
}

// The values are told with their keys, whatever bytes they are.
func TestP1501ChunksValues(t *testing.T) {
	h := holds(t, "c-k@4", "")
	want := mine(api.KindChunk)
	want.N = 1
	for _, item := range []api.Item{{Key: "c\x00\xff", Value: ""}, {Key: "d", Value: strings.Repeat("\xff", 16)}, {Key: "d ", Value: "\x00"}} {
		put(h, item.Key, item.Value)
		want.Items = append(want.Items, item)
	}
	sends(t, "values", letters(t, "values", h, "c-k"), want, commit("c-k", 5))
}

// The promise tells the arc as it was handed in, and the epoch of the offer.
func TestP1501Commit(t *testing.T) {
	for _, c := range []struct {
		what, arcs, arc, left string
		epoch                 int
	}{
		{"all", "c-k@4", "c-k", "", 5},
		{"a part", "c-k@4", "d-f", "c-d@4 f-k@4", 5},
		{"side by side", "c-f@2 f-k@6", "e-g", "c-e@2 g-k@6", 7},
		{"over the end", "x-f@0", "y-c", "c-f@0 x-y@0", 1},
		{"the whole ring from m on", "-@9", "m-m", "", 10},
		{"a part of the whole ring", "-@9", "m-p", "p-m@9", 10},
	} {
		h := holds(t, c.arcs, "")
		sends(t, c.what, letters(t, c.what, h, c.arc), commit(c.arc, c.epoch))
		isText(t, c.what+": Arcs behind Done", spell(h.Arcs()), c.left)
	}
}

// What comes to the hold beside the arc, and who owns it, changes nothing of the transfer.
func TestP1501Beside(t *testing.T) {
	h := holds(t, "c-k@4", "c d e f g h")
	g := starts(t, h, "d-g")
	h.Own(span("p-s"), 50)
	put(h, "ca", "")
	del(h, "h")
	gets(t, "Accept", g, accept(1), 2, chunk(1, "d e f"))
	put(h, "g", "new")
	h.Win(span("k-m"), 60, api.Item{Key: "l", Value: "l"})
	h.Tick()
	gets(t, "Got", g, got(1), 3, commit("d-g", 5))
	h.Own(span("m-n"), 3)
	gets(t, "Done", g, done(), 4)
	has(t, "Done", h, "c-d@4 g-k@4 k-m@60 m-n@3 p-s@50", "c ca= g=new l")
}
