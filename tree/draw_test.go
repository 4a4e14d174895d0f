package tree_test

import (
	"maps"
	"math/rand"
	"slices"
	"strings"

	"tussock/api"
	"tussock/object"
)

// draw says what drawn trees and edits are made of.
type draw struct{ *rand.Rand }

func newDraw(seed int64) draw { return draw{rand.New(rand.NewSource(seed))} }

// name is one of few, so that they meet.
func (r draw) name() string {
	return []string{"a", "b", "c", "a-", "a.b", "d", "e", "\xff", "A", repeated('n', 64)}[r.Intn(10)]
}

func (r draw) path() string {
	var names []string
	for range 1 + r.Intn(1+r.Intn(6)) {
		names = append(names, r.name())
	}
	return strings.Join(names, "/")
}

// files are up to n, none below another one.
func (r draw) files(n int) files {
	l := files{}
	for range n {
		l.put(r.path(), part(byte(r.Intn(5))))
	}
	return l
}

// put lays a file, unless it would stand below another one, or has others below.
func (l files) put(at string, x api.Part) {
	for dir := dirOf(at); dir != ""; dir = dirOf(dir) {
		if _, ok := l[dir]; ok {
			return
		}
	}
	if len(l.within(at)) == 0 {
		l[at] = x
	}
}

// changed are files with some others, some less.
func (r draw) changed(l files) files {
	out := maps.Clone(l)
	for _, at := range slices.Sorted(maps.Keys(l)) {
		if r.Intn(4) == 0 {
			delete(out, at)
		}
	}
	for range r.Intn(10) {
		out.put(r.path(), part(byte(r.Intn(5))))
	}
	return out
}

// edit is mostly one that can be done.
func (r draw) edit(l files) api.Edit {
	x := api.Edit{File: api.File{Path: r.path(), Part: part(byte(r.Intn(5)))}}
	if paths := slices.Sorted(maps.Keys(l)); len(paths) > 0 && r.Intn(2) == 0 {
		x.Path = paths[r.Intn(len(paths))]
		for r.Intn(3) == 0 && dirOf(x.Path) != "" {
			x.Path = dirOf(x.Path)
		}
		if r.Intn(4) == 0 {
			x.Path += "/" + r.name()
		}
	}
	if r.Intn(2) == 0 {
		x.Gone, x.Part = true, api.Part{}
	}
	if r.Intn(60) == 0 {
		x.Part = []api.Part{{}, {Id: id(1), Size: -1}, {Id: "short"}, {Id: id(1), Size: 262145}}[r.Intn(4)]
	}
	if r.Intn(60) == 0 {
		x.Path = noPaths()[r.Intn(len(noPaths()))]
	}
	return x
}

// possible are edits of which each can be done, with what they make of the files.
func (r draw) possible(l files, n int) ([]api.Edit, files) {
	now := maps.Clone(l)
	var out []api.Edit
	for range n {
		x := r.edit(now)
		next, ok := now.done(x)
		if ok {
			out, now = append(out, x), next
		}
	}
	return out, now
}

// done are files behind an edit, if it can be done.
func (l files) done(x api.Edit) (files, bool) {
	if !isPath(x.Path) || x.Path == "" || !x.Gone && (len(x.Id) != 32 || x.Size < 0 || x.Size > 262144) || x.Gone && x.Part != (api.Part{}) {
		return l, false
	}
	below := l.within(x.Path)
	if x.Gone {
		_, ok := l[x.Path]
		return l.without(append(slices.Collect(maps.Keys(below)), x.Path)...), ok || len(below) > 0
	}
	now := l.without(x.Path)
	now.put(x.Path, x.Part)
	_, ok := now[x.Path]
	return now, ok
}

// harm breaks some of what lies on a shelf.
func (r draw) harm(s *shelf) {
	ids := slices.Sorted(maps.Keys(s.has))
	for range 1 + r.Intn(3) {
		id := ids[r.Intn(len(ids))]
		was := s.has[id]
		switch r.Intn(6) {
		case 0:
			delete(s.has, id)
		case 1:
			s.errs[id] = errorsOfGet[r.Intn(len(errorsOfGet))]
		case 2:
			s.has[id] = s.has[ids[r.Intn(len(ids))]]
		case 3:
			b := []byte(was)
			if len(b) > 0 {
				b[r.Intn(len(b))] ^= byte(1 + r.Intn(255))
			}
			s.has[id] = string(b)
		case 4:
			s.has[id] = was[:r.Intn(len(was)+1)]
		case 5:
			s.has[id] = r.otherLeaf(was, ids)
		}
	}
}

// otherLeaf is a leaf with another entry in the place of one.
func (r draw) otherLeaf(b string, ids []string) string {
	pairs, e := object.TakeLeaf(b)
	if e != api.OK || len(pairs) == 0 {
		return "L\x00"
	}
	p := &pairs[r.Intn(len(pairs))]
	x, _ := object.TakeEntry(p.Key, p.Val)
	switch r.Intn(5) {
	case 0:
		x.Size += int64(r.Intn(3) - 1)
	case 1:
		x.Kind = 3 - x.Kind
	case 2:
		x.Id = ids[r.Intn(len(ids))]
	case 3:
		x.Kind, x.Id = api.KDir, ids[r.Intn(len(ids))]
	}
	p.Val = "no entry's"
	if val, e := object.Entry(x); e == api.OK && r.Intn(5) != 0 {
		p.Val = val
	}
	o, _ := object.Leaf(pairs...)
	return o.Bytes
}

// someBytes are some of what lies on a shelf, so that a get may answer one of a few.
func (s *shelf) someBytes(r draw) []string {
	all := slices.Sorted(maps.Values(s.has))
	var out []string
	for range 1 + r.Intn(6) {
		out = append(out, all[r.Intn(len(all))])
	}
	return out
}
