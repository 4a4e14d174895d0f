package store

import (
	"maps"
	"slices"
	"strings"

	"tussock/api"
)

// place is where an object's bytes lie: in the file of a number, from at on.
type place struct {
	file, at, size int
}

// index says where objects lie.
type index struct {
	places map[string]place
	bytes  int // those of all objects
}

func (x *index) find(id string) (place, bool) {
	p, has := x.places[id]
	return p, has
}

// count is how many objects there are, ids are theirs, rising.
func (x *index) count() int { return len(x.places) }

func (x *index) ids() []string { return slices.Sorted(maps.Keys(x.places)) }

// those are the ids, of some, of objects that are there, each once, rising.
func (x *index) those(ids []string) []string {
	var out []string
	for _, id := range ids {
		if _, has := x.find(id); has {
			out = append(out, id)
		}
	}
	slices.Sort(out)
	return slices.Compact(out)
}

// missing are the objects, of some, that are not there, each once, by rising ids.
func (x *index) missing(objs []api.Object) []api.Object {
	var out []api.Object
	for _, o := range objs {
		if _, has := x.find(o.Id); !has {
			out = append(out, o)
		}
	}
	slices.SortFunc(out, func(a, b api.Object) int { return strings.Compare(a.Id, b.Id) })
	return slices.CompactFunc(out, func(a, b api.Object) bool { return a.Id == b.Id })
}

// enter takes note of what a file has. False: one of its objects is there already, which no store lays twice.
func (x *index) enter(f front) bool {
	if x.places == nil {
		x.places = map[string]place{}
	}
	at := f.end()
	for _, r := range f.rows {
		if _, has := x.find(r.id); has {
			return false
		}
		x.places[strings.Clone(r.id)] = place{f.number, at, r.size} // the id may be a piece of some great text
		x.bytes += r.size
		at += r.size
	}
	return true
}
