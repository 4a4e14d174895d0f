package tiers

import (
	"tussock/api"
	"tussock/lru"
	"tussock/store"
)

// here is all but far. Memory is the cache: it has only what has its id, and tells nothing that the stores have not.
type here struct {
	*lru.Cache
	own  *store.Store
	near *fetched
}

// isHere tells whether one of the stores has an object.
func (h *here) isHere(id string) bool { return h.own.Has(id) || h.near.Has(id) }

// missing are the ids, of some, of objects that are not here, each once, in order.
func (h *here) missing(ids []string) []string {
	var out []string
	seen := map[string]struct{}{}
	for _, id := range ids {
		if _, was := seen[id]; was || h.isHere(id) {
			continue
		}
		seen[id] = struct{}{}
		out = append(out, id)
	}
	return out
}

// find is an object that is here. ErrMissing: it is not, or not any more.
func (h *here) find(id string) (string, api.Errno) {
	if !h.isHere(id) {
		return "", api.ErrMissing
	}
	if text, has := h.Get(id); has {
		return text, api.OK
	}
	text, e := h.read(id)
	if e != api.OK {
		return "", e
	}
	h.Put(id, text) // what is too heavy for it is none of its texts
	return text, api.OK
}

// read reads an object that is here from its store. Near can get another one in the place of bytes that are not their own any more; own can't, nobody else may have it.
func (h *here) read(id string) (string, api.Errno) {
	if h.own.Has(id) {
		return h.own.Get(id)
	}
	text, e := h.near.Get(id)
	if e != api.ErrStoreCorrupt {
		return text, e
	}
	if e := h.near.takeAway(id); e != api.OK {
		return "", e
	}
	return "", api.ErrMissing
}

// take takes an object that came from afar.
func (h *here) take(o api.Object) {
	h.near.keep(o)
	if h.isHere(o.Id) {
		h.Put(o.Id, o.Bytes)
	}
}
