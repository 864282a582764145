package shelf

import (
	"strconv"

	"rosary/key"
)

// Fault tells what is wrong with the nodes of a shelf, as P402 says it: "" if nothing is.
func Fault(s *Shelf) string {
	l := look{top: s.top}
	l.node(s.top, 1)
	switch {
	case l.fault != "":
		return l.fault
	case l.items != s.Len():
		return strconv.Itoa(l.items) + " items, Len " + strconv.Itoa(s.Len())
	case l.lowest != s.Depth():
		return strconv.Itoa(l.lowest) + " levels, Depth " + strconv.Itoa(s.Depth())
	}
	return ""
}

// Shared tells whether two shelves have a node, or a list of one, in common.
func Shared(a, b *Shelf) bool {
	had := map[any]bool{}
	a.top.each(func(n *node) {
		had[n], had[&n.items[0]] = true, true
		if len(n.below) > 0 {
			had[&n.below[0]] = true
		}
	})
	shared := false
	b.top.each(func(n *node) {
		shared = shared || had[n] || had[&n.items[0]] || len(n.below) > 0 && had[&n.below[0]]
	})
	return shared
}

func (n *node) each(do func(n *node)) {
	if n == nil {
		return
	}
	do(n)
	for _, b := range n.below {
		b.each(do)
	}
}

// look is what was seen of a tree on the way through it.
type look struct {
	top    *node
	items  int
	lowest int // the level of the lowest nodes
	last   string
	fault  string
}

func (l *look) node(n *node, level int) {
	if n == nil {
		return
	}
	least := Width / 2
	if n == l.top {
		least = 1
	}
	switch {
	case len(n.items) > Width || len(n.items) < least:
		l.fault = "a node of " + strconv.Itoa(len(n.items)) + " items on level " + strconv.Itoa(level)
	case len(n.below) == 0 && l.lowest != 0 && l.lowest != level:
		l.fault = "lowest nodes on the levels " + strconv.Itoa(l.lowest) + " and " + strconv.Itoa(level)
	case len(n.below) == 0:
		l.lowest = level
	case len(n.below) != len(n.items)+1:
		l.fault = strconv.Itoa(len(n.below)) + " nodes below one of " + strconv.Itoa(len(n.items)) + " items"
	}
	if l.fault != "" {
		return
	}
	for at, item := range n.items {
		l.node(n.down(at), level+1)
		if l.items > 0 && !key.Less(l.last, item.Key) {
			l.fault = strconv.Quote(item.Key) + " behind " + strconv.Quote(l.last)
		}
		l.items++
		l.last = item.Key
	}
	l.node(n.down(len(n.items)), level+1)
}
