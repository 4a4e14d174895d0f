package tree_test

import (
	"slices"
	"testing"
	"unsafe"

	"tussock/api"
	"tussock/tree"
)

// lender hands out texts that their owner changes afterwards all the same.
type lender struct{ lent [][]byte }

func (l *lender) lend(s string) string {
	b := []byte(s)
	l.lent = append(l.lent, b)
	return unsafe.String(unsafe.SliceData(b), len(b))
}

// takeBack writes over all that was lent.
func (l *lender) takeBack() {
	for _, b := range l.lent {
		for i := range b {
			b[i] = '!'
		}
	}
	l.lent = nil
}

// get is a shelf's, with bytes that are taken back as soon as it is asked again.
func (l *lender) get(s *shelf) api.Get {
	return func(id string) (string, api.Errno) {
		l.takeBack()
		b, e := s.look(id)
		return l.lend(b), e
	}
}

// edits are such with lent texts, and spare room that is not theirs.
func (l *lender) edits(list ...api.Edit) []api.Edit {
	var out []api.Edit
	for _, x := range list {
		x.Path, x.Id = l.lend(x.Path), l.lend(x.Id)
		out = append(out, x)
	}
	return append(out, lay("spare", 1), gone("spare"))[:len(list)]
}

// R3: nothing of what was handed in, or of what get answered, is kept, neither while it is asked nor behind that.
func TestNothingIsKept(t *testing.T) {
	s := newShelf()
	l := some()
	for _, p := range numbered("a/b/f", 200) {
		l[p] = part(3)
	}
	root := s.plant(l)
	var in, answers lender
	get := answers.get(s)
	for _, at := range append(somePaths(), "a/b/f10100") {
		p := plain{s.look}
		x, e := tree.Find(get, in.lend(root), in.lend(at))
		list, e2 := tree.List(get, in.lend(root), in.lend(at))
		all, e3 := tree.Files(get, in.lend(root), in.lend(at))
		in.takeBack()
		answers.takeBack()
		if want, wantE := p.find(root, at); x != want || e != wantE {
			t.Errorf("Find(%q): %s, %d; want %s, %d", at, toldEntries([]api.Entry{x}), e, toldEntries([]api.Entry{want}), wantE)
		}
		if want, wantE := p.list(root, at); !slices.Equal(list, want) || e2 != wantE {
			t.Errorf("List(%q): %s, %d; want %s, %d", at, toldEntries(list), e2, toldEntries(want), wantE)
		}
		if want, wantE := p.files(root, at); !slices.Equal(all, want) || e3 != wantE {
			t.Errorf("Files(%q): %s, %d; want %s, %d", at, toldFiles(all), e3, toldFiles(want), wantE)
		}
	}
}

// R3: the same of Edit and Diff.
func TestNothingOfEditsIsKept(t *testing.T) {
	s := newShelf()
	root := s.plant(some())
	var in, answers lender
	get := answers.get(s)
	for _, edits := range [][]api.Edit{{}, {lay("a/b/x", 7)}, {lay("new/x", 7), gone("a/d"), lay("new/y/z", 8), gone("b")}} {
		lent := in.edits(edits...)
		was := slices.Clone(lent[:cap(lent)])
		got, objs, e := tree.Edit(get, in.lend(root), lent...)
		if !slices.Equal(lent[:cap(lent)], was) {
			t.Errorf("%s: what was handed in is not what it was", toldEdits(edits))
		}
		in.takeBack()
		answers.takeBack()
		want, wantObjs, wantE := plain{s.look}.edit(root, edits...)
		if got != want || !slices.Equal(objs, wantObjs) || e != wantE {
			t.Errorf("%s: %s, %s, %d; want %s, %s, %d", toldEdits(edits), head(got), heads(idsOf(objs)), e, head(want), heads(idsOf(wantObjs)), wantE)
		}
		s.lay(objs...)
		told, e := tree.Diff(get, in.lend(root), in.lend(got))
		in.takeBack()
		answers.takeBack()
		if wantTold, _ := (plain{s.look}).diff(root, got); e != api.OK || !slices.Equal(told, wantTold) {
			t.Errorf("Diff: %s, %d; want %s", toldStatus(told), e, toldStatus(wantTold))
		}
	}
}

// R3: answers are the caller's alone, their spare room too.
func TestAnswersAreTheCallers(t *testing.T) {
	s := newShelf()
	root := s.plant(some())
	for range 2 {
		list, _ := tree.List(s.look, root, "")
		all, _ := tree.Files(s.look, root, "")
		told, _ := tree.Diff(s.look, tree.Empty().Id, root)
		_, objs, _ := tree.Edit(s.look, root, lay("a/b/x", 1), lay("z", 1))
		clear(list[:cap(list)])
		clear(all[:cap(all)])
		clear(told[:cap(told)])
		clear(objs[:cap(objs)])
	}
	wantRead(t, "again", s, root, somePaths()...)
	wantEdit(t, "again", s, root, lay("a/b/x", 1), lay("z", 1))
	wantDiff(t, "again", s, root, tree.Empty().Id)
}

// R4: what is answered hangs on the arguments alone: a get may ask for trees itself.
func TestGetThatAsksItself(t *testing.T) {
	s := newShelf()
	root := s.plant(some())
	edits := []api.Edit{lay("a/b/x", 1), gone("b/b"), lay("z/y", 2)}
	other := wantEdit(t, "once", s, root, edits...)
	get := func(id string) (string, api.Errno) {
		wantFiles(t, "within", s, other, "")
		wantDiff(t, "within", s, other, root)
		wantEdit(t, "within", s, other, gone("a"), lay("a", 3))
		return s.look(id)
	}
	got, objs, e := tree.Edit(get, root, edits...)
	_, want, _ := tree.Edit(s.look, root, edits...)
	if got != other || e != api.OK || !slices.Equal(objs, want) {
		t.Errorf("Edit: %s, %d; want %s", head(got), e, head(other))
	}
	if l, e := tree.Files(get, root, ""); e != api.OK || !slices.Equal(l, some().sorted()) {
		t.Errorf("Files: %s, %d", toldFiles(l), e)
	}
	told, _ := plain{s.look}.diff(root, other)
	if l, e := tree.Diff(get, root, other); e != api.OK || !slices.Equal(l, told) {
		t.Errorf("Diff: %s, %d; want %s", toldStatus(l), e, toldStatus(told))
	}
}
