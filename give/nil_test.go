package give_test

import (
	"strconv"
	"testing"

	"rosary/api"
	"rosary/give"
)

// nobody goes through a nil transfer and a zero one.
func nobody() map[string]*give.Give { return map[string]*give.Give{"nil": nil, "zero": {}} }

// A nil one gets nothing, and so does one that Start did not make.
func TestP1501Nil(t *testing.T) {
	for what, g := range nobody() {
		for _, kind := range kinds() {
			for n := -1; n <= 2; n++ {
				whose := what + ": kind " + strconv.Itoa(kind)
				foreign(t, whose, g, letter(kind, n))
				foreign(t, whose+" of nobody", g, api.Letter{Kind: kind, N: n})
			}
		}
	}
}

// A nil one is not stopped, and is at no step.
func TestP1502Nil(t *testing.T) {
	for what, g := range nobody() {
		l, ok := g.Stop()
		sends(t, what+": Stop", l)
		is(t, what+": Stop", ok, false)
		is(t, what+": Step", g.Step(), 0)
		is(t, what+": Id", g.Id(), 0)
	}
}
