package tree

import (
	"tussock/api"
	"tussock/object"
	"tussock/path"
	"tussock/prolly"
)

// reading asks a get for directories.
type reading struct{ get api.Get }

// goTo goes from a root to a path.
func (r reading) goTo(root, at string) (*place, api.Errno) {
	names, e := path.Parse(at)
	if e != api.OK {
		return nil, e
	}
	if r.get == nil {
		return nil, api.ErrNil
	}
	p := rootOf(root)
	for _, name := range names {
		x, e := r.find(p.Entry, name)
		if e != api.OK {
			return nil, e
		}
		p = &place{Entry: x, up: p}
	}
	return p, api.OK
}

// find is what stands under a name in a directory; a file has no names.
func (r reading) find(dir api.Entry, name string) (api.Entry, api.Errno) {
	if dir.Kind != api.KDir {
		return api.Entry{}, api.ErrTreeNotDir
	}
	val, ok, e := prolly.Find(r.get, dir.Id, name)
	if e != api.OK {
		return api.Entry{}, e
	}
	if !ok {
		return api.Entry{}, api.ErrTreeNone
	}
	return takeEntry(name, val)
}

// entries are all of a directory: as many as its own entry says, if it has one. A root has none, and so no name.
func (r reading) entries(dir api.Entry) ([]api.Entry, api.Errno) {
	pairs, e := prolly.List(r.get, dir.Id, "", "")
	if e != api.OK {
		return nil, e
	}
	if dir.Name != "" && dir.Size != int64(len(pairs)) {
		return nil, api.ErrTreeForm
	}
	var entries []api.Entry
	for _, p := range pairs {
		x, e := takeEntry(p.Key, p.Val)
		if e != api.OK {
			return nil, e
		}
		entries = append(entries, x)
	}
	return entries, api.OK
}

func takeEntry(name, val string) (api.Entry, api.Errno) {
	x, e := object.TakeEntry(name, val)
	if e != api.OK {
		return api.Entry{}, api.ErrTreeForm
	}
	return x, api.OK
}
