package hold

import (
	"cmp"
	"slices"

	"rosary/api"
	"rosary/arc"
)

// Arcs tells what is owned.
func (h *Hold) Arcs() []api.Owned {
	if h.none() {
		return nil
	}
	return slices.Clone(h.owned)
}

// Pieces tells what is owned side by side.
func (h *Hold) Pieces() []api.Owned {
	if h.none() {
		return nil
	}
	return joined(slices.Clone(h.owned), anyEpoch)
}

// Has tells whether a point is owned.
func (h *Hold) Has(x uint64) bool {
	if h.none() {
		return false
	}
	return slices.ContainsFunc(h.owned, func(o api.Owned) bool { return arc.In(o.Arc, x) })
}

// Epoch tells the greatest epoch.
func (h *Hold) Epoch() int {
	if h.none() {
		return 0
	}
	epoch := 0
	for _, o := range h.owned {
		epoch = max(epoch, o.Epoch)
	}
	return epoch
}

// free tells whether an arc may be owned as of an epoch.
func (h *Hold) free(a api.Arc, epoch int) bool {
	if epoch < 0 {
		return false
	}
	return !slices.ContainsFunc(h.owned, func(o api.Owned) bool { return !arc.Apart(o.Arc, a) })
}

// follow goes along an arc, from one that is owned to the next one: up to where it comes so, the greatest epoch on the way, and whether all of the arc is owned.
func (h *Hold) follow(a api.Arc) (to uint64, epoch int, all bool) {
	rest := a
way:
	for {
		for _, o := range h.owned {
			if !arc.In(o.Arc, rest.From) {
				continue
			}
			epoch = max(epoch, o.Epoch)
			_, behind, more := arc.Split(rest, o.Arc.To)
			if !more {
				return a.To, epoch, true
			}
			rest = behind
			continue way
		}
		return rest.From, epoch, false
	}
}

// without takes an arc away from those that are owned.
func without(owned []api.Owned, a api.Arc) []api.Owned {
	// Cut at both of its ends, each part lies in it or apart from it.
	var left []api.Owned
	for _, part := range split(split(owned, a.From), a.To) {
		if !arc.In(a, part.Arc.From) {
			left = append(left, part)
		}
	}
	return joined(left, sameEpoch)
}

// split cuts the one that has a point there.
func split(owned []api.Owned, x uint64) []api.Owned {
	var parts []api.Owned
	for _, o := range owned {
		head, tail, ok := arc.Split(o.Arc, x)
		if !ok {
			parts = append(parts, o)
			continue
		}
		parts = append(parts, at(o, head), at(o, tail))
	}
	return parts
}

// at is another arc of the same node, as of the same epoch.
func at(o api.Owned, a api.Arc) api.Owned {
	o.Arc = a
	return o
}

// joined puts those together that follow one another and may be so, as few as it takes, by From rising. It may write into the list.
func joined(l []api.Owned, may func(a, b api.Owned) bool) []api.Owned {
	slices.SortFunc(l, func(a, b api.Owned) int { return cmp.Compare(a.Arc.From, b.Arc.From) })
	var out []api.Owned
	for _, o := range l {
		if n := len(out); n > 0 {
			if both, ok := join(out[n-1], o, may); ok {
				out[n-1] = both
				continue
			}
		}
		out = append(out, o)
	}
	// The last one may end where the first one begins.
	if n := len(out); n > 1 {
		if both, ok := join(out[n-1], out[0], may); ok {
			out[n-1] = both
			out = out[1:]
		}
	}
	// There are many names for the whole ring.
	if len(out) == 1 && arc.Whole(out[0].Arc) {
		out[0].Arc = api.Arc{}
	}
	return out
}

// join puts two together, if the second one follows the first one and they may be.
func join(a, b api.Owned, may func(a, b api.Owned) bool) (api.Owned, bool) {
	both, follows := arc.Join(a.Arc, b.Arc)
	if !follows || !may(a, b) {
		return api.Owned{}, false
	}
	a.Epoch = max(a.Epoch, b.Epoch)
	return at(a, both), true
}

// sameEpoch lets two be put together that have the same epoch.
func sameEpoch(a, b api.Owned) bool {
	return a.Epoch == b.Epoch
}

// anyEpoch lets any two be put together.
func anyEpoch(a, b api.Owned) bool {
	return true
}
