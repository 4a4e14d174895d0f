package tree_test

import (
	"slices"
	"testing"

	"tussock/api"
	"tussock/path"
	"tussock/tree"
)

// changes are what became of files, from some to others.
func (l files) changes(now files) []api.Status {
	var out []api.Status
	for at, x := range l {
		y, ok := now[at]
		switch {
		case !ok:
			out = append(out, api.Status{Path: at, What: api.Removed})
		case x != y:
			out = append(out, api.Status{Path: at, What: api.Changed})
		}
	}
	for at := range now {
		if _, ok := l[at]; !ok {
			out = append(out, api.Status{Path: at, What: api.Added})
		}
	}
	slices.SortFunc(out, func(a, b api.Status) int { return path.Compare(a.Path, b.Path) })
	return out
}

// wantBetween asks what became of files, either way round.
func wantBetween(t *testing.T, what string, s *shelf, was, now files) {
	t.Helper()
	a, b := s.plant(was), s.plant(now)
	if got, e := tree.Diff(s.look, a, b); e != api.OK || !slices.Equal(got, was.changes(now)) {
		t.Errorf("%s: %s, %d; want %s", what, toldStatus(got), e, toldStatus(was.changes(now)))
	}
	if got, e := tree.Diff(s.look, b, a); e != api.OK || !slices.Equal(got, now.changes(was)) {
		t.Errorf("%s, the other way round: %s, %d; want %s", what, toldStatus(got), e, toldStatus(now.changes(was)))
	}
	wantDiff(t, what, s, a, b)
}

// P16.4: Added, Removed, Changed, by rising paths.
func TestDiff(t *testing.T) {
	s := newShelf()
	for what, now := range map[string]files{
		"all the same": some(), "nothing": {}, "one more": some().with("a/b/x", 9), "one less": some().without("a/b/c"), "another part": some().with("a/b/d/e", 99),
		"several": some().with("a/x", 9).with("z", 9).with("c", 99).with("a-b", 98).without("b/b/b/b", "a/b/d/e"), "a directory less": some().without("a.b/c"), "two less": some().without("a/b/d/e", "a/b/d/f"),
		"all others": filesOf("x", "y/z"), "the same files of other parts": filesOf("\xff/\x01", "c", "b/b/b/b", "a.b/c", "a-b", "a/d", "a/b/d/f", "a/b/d/e", "a/b/c"), "many more": filesOf(numbered("a/b/f", 500)...),
	} {
		wantBetween(t, what, s, some(), now)
	}
	got, e := tree.Diff(s.look, s.plant(filesOf("a", "b", "c/d")), s.plant(filesOf("a", "x", "c/d").with("b", 50).without("a")))
	want := []api.Status{{Path: "a", What: api.Removed}, {Path: "b", What: api.Changed}, {Path: "x", What: api.Added}}
	if e != api.OK || !slices.Equal(got, want) {
		t.Errorf("%s, %d; want %s", toldStatus(got), e, toldStatus(want))
	}
}

// P16.4: parts are Ids and Sizes: if one of them is another one, the file is changed.
func TestDiffOfParts(t *testing.T) {
	s := newShelf()
	was := files{"d/f": {Id: id(1), Size: 5}}
	for _, now := range []api.Part{{Id: id(1), Size: 6}, {Id: id(2), Size: 5}, {Id: id(1), Size: 0}, {Id: id(2), Size: 6}} {
		a, b := s.plant(was), s.plant(files{"d/f": now})
		if got, e := tree.Diff(s.look, a, b); e != api.OK || !slices.Equal(got, []api.Status{{Path: "d/f", What: api.Changed}}) {
			t.Errorf("%d: %s, %d", now.Size, toldStatus(got), e)
		}
		wantDiff(t, "another part", s, a, b)
	}
}

// P16.4: of one root twice nothing became of files, and nothing is asked, whatever it is.
func TestDiffOfOneRootTwice(t *testing.T) {
	s := newShelf()
	for _, root := range []string{tree.Empty().Id, s.plant(some()), id('n'), "", "short"} {
		asked := s.askedOf(func() {
			if got, e := tree.Diff(s.get, root, root); len(got) != 0 || e != api.OK {
				t.Errorf("%.8q: %s, %d", root, toldStatus(got), e)
			}
		})
		if len(asked) != 0 {
			t.Errorf("%.8q: asked for %d", root, len(asked))
		}
	}
}

// P16.4: roots that are not there, one or both.
func TestDiffOfRootsThatAreNotThere(t *testing.T) {
	s := newShelf()
	root := s.plant(some())
	for _, other := range []string{id('n'), "", "short"} {
		wantDiffError(t, "one root", s, root, other, api.ErrMissing)
		wantDiffError(t, "both roots", s, id('m'), other, api.ErrMissing)
	}
	for _, e := range errorsOfGet {
		s.errs[id('e')] = e
		wantDiffError(t, "an error of get", s, root, id('e'), e)
	}
	s.errs[id('e')], s.errs[id('f')] = 701, 702
	wantDiff(t, "two errors", s, id('e'), id('f'))
}

// P16.4: a file that became a directory, and the other way round: the file's path stands ahead.
func TestDiffOfFilesAndDirectories(t *testing.T) {
	s := newShelf()
	for at := range some() {
		wantBetween(t, "a file that became a directory", s, some(), some().without(at).with(at+"/x", 9))
		wantBetween(t, "a file that became a directory of several", s, some(), some().without(at).with(at+"/x", 9).with(at+"/y/z", 9))
	}
	wantBetween(t, "in the middle of others", s, filesOf("a/b", "a/c", "a-b", "b"), filesOf("a", "a-b", "b", "c"))
	got, e := tree.Diff(s.look, s.plant(filesOf("a/x", "a/y")), s.plant(filesOf("a", "a-b")))
	want := []api.Status{{Path: "a", What: api.Added}, {Path: "a/x", What: api.Removed}, {Path: "a/y", What: api.Removed}, {Path: "a-b", What: api.Added}}
	if e != api.OK || !slices.Equal(got, want) {
		t.Errorf("%s, %d; want %s", toldStatus(got), e, toldStatus(want))
	}
}

// P16.4: paths rise as their names do, which is not how their bytes do.
func TestDiffByRisingPaths(t *testing.T) {
	s := newShelf()
	now := filesOf("a/x", "a-b", "a!", "a.b/c", "a0", "a/b/c", "a/b-c", "a/b!", "A", "\x01/z")
	got, e := tree.Diff(s.look, tree.Empty().Id, s.plant(now))
	rising := slices.IsSortedFunc(got, func(a, b api.Status) int { return path.Compare(a.Path, b.Path) })
	if e != api.OK || len(got) != len(now) || !rising {
		t.Errorf("%s, %d", toldStatus(got), e)
	}
	wantBetween(t, "rising paths", s, filesOf("a/b", "a-b/c", "a", "a.b").without("a"), now)
}

// P16.4: where both have the same entry nothing is gone into: it may be missing, or broken.
func TestDiffPastWhatIsTheSame(t *testing.T) {
	s := newShelf()
	was := some()
	for _, p := range numbered("same/f", 200) {
		was[p] = part(5)
	}
	now := was.with("a/d", 99).with("x/y", 1).without("c")
	a, b := s.plant(was), s.plant(now)
	for _, at := range []string{"a/b", "b", "a.b", "\xff", "same"} {
		same := entry(t, s, a, at).Id
		delete(s.has, same)
		asked := s.askedOf(func() {
			if got, e := tree.Diff(s.get, a, b); e != api.OK || !slices.Equal(got, was.changes(now)) {
				t.Errorf("without %q: %s, %d; want %s", at, toldStatus(got), e, toldStatus(was.changes(now)))
			}
		})
		if slices.Contains(asked, same) {
			t.Errorf("%q was asked for", at)
		}
	}
	wantDiff(t, "what is the same is missing", s, a, b)
	wantDiffError(t, "missing where one alone has it", s, a, tree.Empty().Id, api.ErrMissing)
	wantDiffError(t, "missing where the other one has another", s, a, wantEditOf(t, s, b, "b", lay("b/x", 1)), api.ErrMissing)
}

// wantEditOf lays a directory anew, of files that are there, in the place of one that is missing.
func wantEditOf(t *testing.T, s *shelf, root, dir string, edit api.Edit) string {
	t.Helper()
	return wantEdit(t, "a directory laid anew", s, root, gone(dir), edit)
}
