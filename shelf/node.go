package shelf

import (
	"slices"

	"rosary/api"
)

// half is how many items a node has at least, but the top.
const half = Width / 2

// node is a part of the tree: items, rising, and the nodes between them.
type node struct {
	items []api.Item
	below []*node // one more than items; none on the lowest level
}

// step is a node on a way down, and the place in it at which the way goes on, or ends.
type step struct {
	node *node
	at   int
}

// item is the one at its place.
func (s step) item() *api.Item {
	return &s.node.items[s.at]
}

// down is the node ahead of the item at a place; of the place behind all items, the last one.
func (n *node) down(at int) *node {
	if len(n.below) == 0 {
		return nil
	}
	return n.below[at]
}

// gather puts its items, and those below it, behind a list.
func (n *node) gather(list []api.Item) []api.Item {
	if n == nil {
		return list
	}
	for at, item := range n.items {
		list = append(n.down(at).gather(list), item)
	}
	return n.down(len(n.items)).gather(list)
}

// clone makes another one alike, down to the lowest level.
func (n *node) clone() *node {
	if n == nil {
		return nil
	}
	other := &node{items: slices.Clone(n.items)}
	for _, b := range n.below {
		other.below = append(other.below, b.clone())
	}
	return other
}

// insert puts an item in at a place, and behind it a node, if there is one.
func (n *node) insert(at int, item api.Item, behind *node) {
	n.items = slices.Insert(n.items, at, item)
	if behind != nil {
		n.below = slices.Insert(n.below, at+1, behind)
	}
}

// remove takes the item at a place away, and the node behind it, if there is one.
func (n *node) remove(at int) {
	n.items = slices.Delete(n.items, at, at+1)
	if len(n.below) > 0 {
		n.below = slices.Delete(n.below, at+1, at+2)
	}
}

// split takes what is behind its middle item away as a new node, and that item.
// Of more than Width items, both keep at least half of Width.
func (n *node) split() (api.Item, *node) {
	middle := len(n.items) / 2
	item := n.items[middle]
	behind := &node{items: slices.Clone(n.items[middle+1:])}
	n.items = slices.Delete(n.items, middle, len(n.items))
	if len(n.below) > 0 {
		behind.below = slices.Clone(n.below[middle+1:])
		n.below = slices.Delete(n.below, middle+1, len(n.below))
	}
	return item, behind
}

// mend makes the node below a place have enough items again, if it lacks one.
func (n *node) mend(at int) {
	if len(n.below[at].items) >= half {
		return
	}
	// One that has too few always has a neighbour: where there are nodes below, there is an item here.
	ahead := max(at-1, 0)
	n.join(ahead)
	if joined := n.below[ahead]; len(joined.items) > Width {
		item, behind := joined.split()
		n.insert(ahead, item, behind)
	}
}

// join makes one node of the two around the item at a place, and that item.
func (n *node) join(at int) {
	ahead, behind := n.below[at], n.below[at+1]
	ahead.items = append(append(ahead.items, n.items[at]), behind.items...)
	ahead.below = append(ahead.below, behind.below...)
	n.remove(at)
}

// toLowest moves the end of a way down to the lowest level.
// The item just ahead of the one at which the way ended comes to its place, and the way ends at where that was.
func toLowest(way []step) []step {
	end := way[len(way)-1]
	n := end.node.down(end.at)
	if n == nil {
		return way
	}
	for ; n != nil; n = n.down(len(n.items)) {
		way = append(way, step{n, len(n.items)})
	}
	last := &way[len(way)-1]
	last.at--
	*end.item() = *last.item()
	return way
}
