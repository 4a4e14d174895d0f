package tree

import (
	"maps"
	"slices"

	"tussock/api"
	"tussock/object"
	"tussock/path"
	"tussock/prolly"
)

// editing does edits to a tree, of which it has the directories that one came into.
type editing struct {
	reading
	root *place
}

func (t *editing) do(x api.Edit) api.Errno {
	names, e := path.Parse(x.Path)
	if e != api.OK || len(names) == 0 {
		return api.ErrPathForm
	}
	if !isRight(x) {
		return api.ErrArg
	}
	last := len(names) - 1
	dir, e := t.comeTo(names[:last], x.Gone)
	if e != api.OK {
		return e
	}
	if x.Gone {
		return takeOut(dir, names[last])
	}
	return layFile(dir, names[last], x.Part)
}

func isRight(x api.Edit) bool {
	if x.Gone {
		return x.Part == api.Part{}
	}
	return len(x.Id) == api.IdSize && x.Size >= 0 && x.Size <= api.MaxFile
}

// comeTo comes into the directories of a path, one within the other, up to the last one. Who takes something away finds them there; for others they are made.
func (t *editing) comeTo(names []string, find bool) (*place, api.Errno) {
	p := t.root
	e := t.comeInto(p)
	for _, name := range names {
		if e != api.OK {
			return nil, e
		}
		kid, ok := p.in[name]
		switch {
		case ok:
			e = t.comeInto(kid)
		case find:
			return nil, api.ErrTreeNone
		default:
			kid = p.lay(api.Entry{Name: name, Kind: api.KDir})
			kid.in = map[string]*place{} // a new one is not there to be listed
		}
		p = kid
	}
	return p, e
}

// comeInto lists a directory, unless that was done.
func (t *editing) comeInto(p *place) api.Errno {
	if p.Kind != api.KDir {
		return api.ErrTreeNotDir
	}
	if p.in != nil {
		return api.OK
	}
	entries, e := t.entries(p.Entry)
	if e != api.OK {
		return e
	}
	p.in = map[string]*place{}
	for _, x := range entries {
		p.lay(x)
	}
	return api.OK
}

func layFile(dir *place, name string, part api.Part) api.Errno {
	if was, ok := dir.in[name]; ok && was.Kind == api.KDir {
		return api.ErrTreeDir
	}
	dir.lay(api.Entry{Name: name, Kind: api.KFile, Id: part.Id, Size: part.Size})
	return api.OK
}

func takeOut(dir *place, name string) api.Errno {
	if _, ok := dir.in[name]; !ok {
		return api.ErrTreeNone
	}
	dir.takeAway(name)
	return api.OK
}

// laying makes the objects of directories that one came into, each id once.
type laying struct {
	objects []api.Object
	laid    map[string]struct{}
}

// layAll lays a directory, those within it first, as its own objects name theirs. One that nobody came into stays as it is.
func (l *laying) layAll(p *place) api.Errno {
	if p.in == nil {
		return api.OK
	}
	var pairs []api.Pair
	for _, name := range slices.Sorted(maps.Keys(p.in)) {
		kid := p.in[name]
		if e := l.layAll(kid); e != api.OK {
			return e
		}
		val, _ := object.Entry(kid.Entry) // what was listed, or laid, is right; a directory that has too many entries was told
		pairs = append(pairs, api.Pair{Key: name, Val: val})
	}
	root, objects, e := prolly.Build(pairs...)
	if e != api.OK {
		return e
	}
	p.Id, p.Size = root, int64(len(pairs))
	l.keep(objects...)
	return api.OK
}

func (l *laying) keep(objects ...api.Object) {
	if l.laid == nil {
		l.laid = map[string]struct{}{}
	}
	for _, o := range objects {
		if _, ok := l.laid[o.Id]; !ok {
			l.laid[o.Id] = struct{}{}
			l.objects = append(l.objects, o)
		}
	}
}
