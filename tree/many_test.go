package tree_test

import (
	"fmt"
	"slices"
	"testing"

	"tussock/api"
	"tussock/tree"
)

// P16.2: a directory of 4096 entries may be, one of 4097 not; what counts is what is there at the end.
func TestDirectoriesOf4096And4097(t *testing.T) {
	s := newShelf()
	for _, dir := range []string{"", "d/", "d/e/"} {
		l := filesOf(numbered(dir+"f", 4095)...)
		root := s.plant(l)
		full := wantMade(t, "the last one", s, root, l.with(dir+"x", 1), lay(dir+"x", 1))
		wantEditError(t, "one too many", s, root, api.ErrProllyMany, lay(dir+"x", 1), lay(dir+"y", 1))
		wantEditError(t, "one too many", s, full, api.ErrProllyMany, lay(dir+"y", 1))
		wantEditError(t, "one too many, in a new directory", s, full, api.ErrProllyMany, lay(dir+"y/z", 1))
		wantMade(t, "another part of one", s, full, l.with(dir+"x", 2), lay(dir+"x", 2))
		wantMade(t, "too many, then not", s, full, l.with(dir+"y", 1), lay(dir+"y", 1), gone(dir+"x"))
		wantMade(t, "too many, then not, by a directory that vanished", s, full, l.with(dir+"x", 1), lay(dir+"y/z", 1), gone(dir+"y/z"))
		wantEditError(t, "too many, and an edit that can't be done", s, full, api.ErrTreeNone, lay(dir+"y", 1), gone(dir+"none"))
		if dir != "" {
			wantMade(t, "too many, then gone whole", s, full, filesOf("z"), lay(dir+"y", 1), gone("d"), lay("z", 1))
			wantEditError(t, "too many, and others made", s, full, api.ErrProllyMany, lay("z", 1), lay(dir+"y", 1), lay("a", 1))
		}
	}
}

// P16.2: directories count among the entries of the one in which they stand, and nothing else does.
func TestDirectoriesOf4096Directories(t *testing.T) {
	s := newShelf()
	l := files{}
	for _, dir := range numbered("d", 4096) {
		l[dir+"/x"] = part(1)
	}
	root := s.plant(l)
	wantMade(t, "one more within", s, root, l.with("d10000/y", 2), lay("d10000/y", 2))
	wantMade(t, "one for another", s, root, l.without("d10000/x").with("e/x", 2), gone("d10000/x"), lay("e/x", 2))
	wantEditError(t, "one more", s, root, api.ErrProllyMany, lay("e/x", 2))
	wantEditError(t, "a file more", s, root, api.ErrProllyMany, lay("e", 2))
	wantEditError(t, "behind an edit elsewhere", s, root, api.ErrProllyMany, gone("d10000/x"), lay("e", 2), lay("f", 2))
}

// ofEntries are files of a tree that has so many entries, of which some are directories of 4000 files each.
func ofEntries(dir string, n int) files {
	l := files{}
	for i := 0; n > 0; i++ {
		within := min(n-1, 4000)
		if within == 0 { // a directory must have something
			l[dir+"single"] = part(2)
			return l
		}
		for _, p := range numbered(fmt.Sprintf("%sd%d/f", dir, i), within) {
			l[p] = part(1)
		}
		n -= within + 1
	}
	return l
}

// P16.3: 10000 entries, files and directories, may be met, and no more; those of other directories are not.
func TestFilesOf10000And10001(t *testing.T) {
	s := newShelf()
	for _, n := range []int{9999, 10000, 10001, 10002, 12000} {
		l := ofEntries("", n)
		root := s.plant(l)
		deep := s.plant(ofEntries("a/b/", n).with("z", 1)) // a, b and z besides
		for at, x := range map[string]string{"": root, "a/b": deep} {
			got, e := tree.Files(s.look, x, at)
			if n <= 10000 && (e != api.OK || len(got) != len(l)) || n > 10000 && (e != api.ErrTreeMany || len(got) != 0) {
				t.Errorf("%d entries in %q: %s, %d", n, at, toldFiles(got), e)
			}
			wantFiles(t, fmt.Sprint(n, " entries"), s, x, at)
		}
		wantFiles(t, "with those above", s, deep, "")
		wantFiles(t, "with the one above", s, deep, "a")
		if got, e := tree.Files(s.look, root, "d0"); e != api.OK || len(got) != 4000 {
			t.Errorf("d0 alone: %s, %d", toldFiles(got), e)
		}
	}
}

// P16.3: an error that is met with the entry 10000, or ahead of it, is told; behind it that there are too many.
func TestErrorsAmong10000(t *testing.T) {
	s := newShelf()
	for n, want := range map[int]api.Errno{1: api.ErrMissing, 9998: api.ErrMissing, 9999: api.ErrMissing, 10000: api.ErrTreeMany, 10001: api.ErrTreeMany} {
		l := ofEntries("", n) // ahead of z
		l["z/x"] = part(1)
		root := s.plant(l)
		id := entry(t, s, root, "z").Id
		was := s.has[id]
		delete(s.has, id)
		if got, e := tree.Files(s.look, root, ""); len(got) != 0 || e != want {
			t.Errorf("behind %d: %s, %d; want %d alone", n, toldFiles(got), e, want)
		}
		wantFiles(t, fmt.Sprint("missing behind ", n), s, root, "")
		s.has[id] = was
	}
}

// P16.4: 10000 entries may be told or gone into, and no more: files that were added, removed, changed, and directories.
func TestDiffOf10000And10001(t *testing.T) {
	s := newShelf()
	for _, n := range []int{9999, 10000, 10001, 10002, 12000} {
		l := ofEntries("", n)
		others := files{}
		for at := range l {
			others[at] = part(9)
		}
		root, other := s.plant(l), s.plant(others)
		for what, x := range map[string][2]string{"added": {tree.Empty().Id, root}, "removed": {root, tree.Empty().Id}, "changed": {root, other}} {
			got, e := tree.Diff(s.look, x[0], x[1])
			if n <= 10000 && (e != api.OK || len(got) != len(l)) || n > 10000 && (e != api.ErrTreeMany || len(got) != 0) {
				t.Errorf("%d entries %s: %s, %d", n, what, toldStatus(got), e)
			}
			wantDiff(t, fmt.Sprint(n, " entries ", what), s, x[0], x[1])
		}
	}
}

// P16.4: what is the same does not count, however much of it there is.
func TestDiffOfManyThatAreTheSame(t *testing.T) {
	s := newShelf()
	l := ofEntries("", 20000)
	wantBetween(t, "one changed", s, l, l.with("d3/f10007", 9))
	wantBetween(t, "one more, one less", s, l, l.with("d2/g", 9).without("d3/f10007"))
	wantBetween(t, "a directory less", s, l, l.without(numbered("d1/f", 4000)...))
}

// P16.4: too much is told ahead of all errors, be they met ahead of it or behind.
func TestTooMuchAheadOfErrors(t *testing.T) {
	s := newShelf()
	for _, n := range []int{9000, 10001, 12000} {
		l := ofEntries("m/", n)
		for _, missing := range []string{"a", "m/a", "m/z", "z"} {
			root := s.plant(l.with(missing+"/x", 1))
			id := entry(t, s, root, missing).Id
			was := s.has[id]
			delete(s.has, id)
			want := api.ErrMissing
			if n > 10000 {
				want = api.ErrTreeMany
			}
			wantDiffError(t, fmt.Sprint(missing, " missing beside ", n), s, root, tree.Empty().Id, want)
			wantDiffError(t, fmt.Sprint(missing, " missing beside ", n), s, root, s.plant(files{missing: part(1)}), want)
			s.has[id] = was
		}
	}
}

// P16.4: a file that became a directory is told, and the directory gone into: both count.
func TestDiffCountsFilesAndDirectories(t *testing.T) {
	s := newShelf()
	for n, want := range map[int]api.Errno{9998: api.OK, 9999: api.ErrTreeMany} {
		rest := ofEntries("", n-1) // beside it and what is within
		was, now := s.plant(files{"z": part(1)}), s.plant(func() files { rest["z/x"] = part(1); return rest }())
		got, e := tree.Diff(s.look, was, now)
		if e != want || e == api.OK && (len(got) != len(rest)+1 || !slices.Contains(got, api.Status{Path: "z", What: api.Removed})) {
			t.Errorf("%d: %s, %d; want %d", n, toldStatus(got), e, want)
		}
		wantDiff(t, "a file that became a directory", s, was, now)
	}
}
