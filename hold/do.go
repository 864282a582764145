package hold

import (
	"rosary/api"
	"rosary/arc"
	"rosary/cut"
	"rosary/key"
)

// mostScan is how many items a scan may ask for.
const mostScan = 40

// Do does what a guest asks.
func (h *Hold) Do(a api.Ask) api.Told {
	if h.none() {
		return api.Told{Errno: api.ErrState}
	}
	if e := right(a); e != api.OK {
		return api.Told{Errno: e}
	}
	x := key.Addr(a.Key)
	switch {
	case !h.Has(x):
		return h.elsewhere(x)
	case h.gate.Frozen(x):
		return api.Told{Errno: api.ErrBusy}
	}
	switch a.Op {
	case api.Get:
		return h.get(a.Key)
	case api.Put:
		return h.put(a.Key, a.Value)
	case api.Del:
		return h.del(a.Key)
	default:
		return h.scan(a)
	}
}

// right tells what is wrong with an ask wherever its key lies.
func right(a api.Ask) api.Errno {
	switch {
	case a.Op < api.Get || a.Op > api.Scan:
		return api.ErrArg
	case a.Op != api.Scan:
		return key.Right(a.Key)
	case a.Most < 0 || a.Most > mostScan:
		return api.ErrArg
	case len(a.Key) > api.MaxKey:
		return api.ErrKey
	}
	return api.OK
}

// elsewhere tells who has a point that is not owned.
func (h *Hold) elsewhere(x uint64) api.Told {
	node, gone := h.gate.Where(x)
	if !gone {
		node = -1
	}
	return api.Told{Errno: api.ErrElse, Node: node}
}

// get tells a key's value.
func (h *Hold) get(k string) api.Told {
	v, is := h.shelf.Get(k)
	if !is {
		return api.Told{Errno: api.ErrNone}
	}
	return api.Told{Value: v}
}

// put gives a key a value.
func (h *Hold) put(k, v string) api.Told {
	// The shelf tells this ahead of ErrFull, and does not know of the room that is kept.
	if e := key.Value(v); e != api.OK {
		return api.Told{Errno: e}
	}
	if _, is := h.shelf.Get(k); !is && h.room() <= 0 {
		return api.Told{Errno: api.ErrFull}
	}
	return api.Told{Errno: h.shelf.Put(k, v)}
}

// del takes a key away.
func (h *Hold) del(k string) api.Told {
	if !h.shelf.Del(k) {
		return api.Told{Errno: api.ErrNone}
	}
	return api.Told{}
}

// scan tells items of a range, as far as nothing comes between that is not owned, or is frozen.
func (h *Hold) scan(a api.Ask) api.Told {
	to := a.To
	// First of the ring's end, 0, is no text: no key is behind it.
	stop := key.First(h.stop(key.Addr(a.Key)))
	stopped := stop != "" && (to == "" || key.Less(stop, to))
	if stopped {
		to = stop
	}
	items, more, next := cut.Page(h.shelf, a.Key, to, a.Most)
	if stopped && !more {
		more, next = true, stop
	}
	return api.Told{Items: items, More: more, Next: next}
}

// stop is the first point behind x that is not owned, or is frozen: 0, the end of the ring, if there is none. x is owned, and is not frozen.
func (h *Hold) stop(x uint64) uint64 {
	open := api.Arc{From: x}
	if shut, frozen := h.gate.Arc(); frozen {
		if ahead, _, ok := arc.Split(open, shut.From); ok {
			open = ahead
		}
	}
	to, _, _ := h.follow(open)
	return to
}
