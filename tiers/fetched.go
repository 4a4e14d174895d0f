package tiers

import (
	"slices"

	"tussock/api"
	"tussock/store"
)

// fetched is near: a store of what came from afar, the budget of its bytes, and which of it was used when.
type fetched struct {
	*store.Store
	usage
	budget int
}

func newFetched(near *store.Store, budget int) *fetched {
	return &fetched{near, newUsage(), max(budget, 0)}
}

// order is all ids that it has, in the order in which they were used.
func (f *fetched) order() []string { return f.sorted(f.Ids()) }

// use takes note that an object was answered, if it is one of its own.
func (f *fetched) use(id string, size int) {
	if f.Has(id) {
		f.note(id, size)
	}
}

// keep lays an object, if it is worth it. What hinders that is nobody's matter: who asked for the object has it.
func (f *fetched) keep(o api.Object) {
	room := f.budget - len(o.Bytes)
	if room < 0 || f.Has(o.Id) {
		return
	}
	if f.Bytes() > room && f.shrink(room) != api.OK {
		return
	}
	if f.Put(o) == api.OK {
		f.note(o.Id, len(o.Bytes))
	}
}

// shrink lets objects go, the one used first first, till the others have no more bytes than there is room.
func (f *fetched) shrink(room int) api.Errno {
	ids := f.order()
	stay := len(ids)
	for i, id := range slices.Backward(ids) {
		size, e := f.weigh(id)
		if e != api.OK {
			return e
		}
		if size > room {
			break
		}
		room -= size
		stay = i
	}
	return f.Keep(ids[stay:]...)
}

// takeAway lets one object go.
func (f *fetched) takeAway(id string) api.Errno {
	others := slices.DeleteFunc(f.Ids(), func(x string) bool { return x == id })
	return f.Keep(others...)
}

// weigh is how many bytes an object has. If they can't tell it, because they are not its own any more, they are those that all others leave: so it can go like any other one.
func (f *fetched) weigh(id string) (int, api.Errno) {
	size, e := f.size(id)
	if e != api.ErrStoreCorrupt {
		return size, e
	}
	left := f.Bytes()
	for _, x := range f.Ids() {
		if x == id {
			continue
		}
		size, e := f.size(x)
		if e != api.OK {
			return 0, e
		}
		left -= size
	}
	return left, api.OK
}

// size is how many bytes an object has, as they tell it, unless that was noted.
func (f *fetched) size(id string) (int, api.Errno) {
	if u, was := f.uses[id]; was {
		return u.size, api.OK
	}
	text, e := f.Get(id)
	return len(text), e
}
