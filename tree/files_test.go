package tree_test

import (
	"runtime"
	"slices"
	"strings"
	"testing"

	"tussock/api"
	"tussock/object"
	"tussock/path"
	"tussock/tree"
)

// sorted are files by rising paths.
func (l files) sorted() []api.File {
	var out []api.File
	for at, x := range l {
		out = append(out, api.File{Path: at, Part: x})
	}
	slices.SortFunc(out, func(a, b api.File) int { return path.Compare(a.Path, b.Path) })
	return out
}

// within are those that stand within a directory.
func (l files) within(dir string) files {
	out := files{}
	for at, x := range l {
		if dir == "" || strings.HasPrefix(at, dir+"/") {
			out[at] = x
		}
	}
	return out
}

func wantAllFiles(t *testing.T, what string, s *shelf, root, at string, want files) {
	t.Helper()
	if got, e := tree.Files(s.look, root, at); e != api.OK || !slices.Equal(got, want.sorted()) {
		t.Errorf("%s: Files(%.40q): %s, %d; want %s", what, at, toldFiles(got), e, toldFiles(want.sorted()))
	}
	wantFiles(t, what, s, root, at)
}

// P16.3: the chapter's examples.
func TestExamplesOfFiles(t *testing.T) {
	s := newShelf()
	l := filesOf("a/b/c", "a/d")
	root := s.plant(l)
	wantAllFiles(t, "an example", s, root, "", l)
	wantAllFiles(t, "an example", s, root, "a", l)
	wantAllFiles(t, "gone", s, wantEdit(t, "gone", s, root, gone("a/b/c")), "", l.without("a/b/c"))
}

// P16.3: all files of a directory, by rising paths; of a file itself alone.
func TestFiles(t *testing.T) {
	s := newShelf()
	for what, l := range map[string]files{
		"no files": {}, "one": filesOf("a"), "one, deep": filesOf(strings.Repeat("d/", 15) + "x"), "some": some(),
		"many": filesOf(append(numbered("a/f", 300), numbered("a/g/", 200)...)...), "odd": filesOf("...", " ", "\n/\n", "\xff/\xfe", "ä/ö", repeated('n', 64)),
	} {
		root := s.plant(l)
		wantAllFiles(t, what, s, root, "", l)
		for at := range l {
			wantAllFiles(t, what+", a file", s, root, at, files{at: l[at]})
			for dir := dirOf(at); dir != ""; dir = dirOf(dir) {
				wantAllFiles(t, what+", a directory", s, root, dir, l.within(dir))
			}
		}
	}
}

// P16.3: paths rise as their names do, one by one, which is not how their bytes do.
func TestFilesByRisingPaths(t *testing.T) {
	s := newShelf()
	l := filesOf("a/x", "a-b", "a!", "a.b/c", "a0", "a/b/c", "a/b-c", "a/b!", "A", "\x01/z", "\x01", "a/b.d/e").without("\x01")
	got, e := tree.Files(s.look, s.plant(l), "")
	var paths []string
	for _, x := range got {
		paths = append(paths, x.Path)
	}
	want := []string{"\x01/z", "A", "a/b/c", "a/b!", "a/b-c", "a/b.d/e", "a/x", "a!", "a-b", "a.b/c", "a0"}
	if e != api.OK || !slices.Equal(paths, want) {
		t.Errorf("%q, %d; want %q", paths, e, want)
	}
	if slices.IsSorted(paths) {
		t.Error("the paths stand by their bytes, too: that tells nothing")
	}
}

// P16.3: the error that is met first, in the order of entries; what stands ahead of it does not matter, nor what stands behind.
func TestFirstErrorOfFiles(t *testing.T) {
	s := newShelf()
	l := filesOf("a/x", "b/c/x", "b/d/x", "c", "d/x", "e/f/g/h")
	root := s.plant(l)
	errs := map[string]api.Errno{"a": 701, "b": 702, "b/c": 703, "b/d": 704, "d": 705, "e": 706, "e/f": 707, "e/f/g": 708}
	order := []string{"a", "b", "b/c", "b/d", "d", "e", "e/f", "e/f/g"}
	ids := map[string]string{}
	for at := range errs {
		ids[at] = entry(t, s, root, at).Id
	}
	for _, at := range slices.Backward(order) {
		s.errs[ids[at]] = errs[at]
		if got, e := tree.Files(s.look, root, ""); len(got) != 0 || e != errs[at] {
			t.Errorf("%q: %s, %d; want %d alone", at, toldFiles(got), e, errs[at])
		}
		wantFiles(t, "several errors", s, root, "")
	}
	s.errs[root] = 700
	wantListError(t, "the root", s, root, "", 700)
}

// P16.3: files deeper than paths go are files all the same.
func TestFilesDeeperThanPaths(t *testing.T) {
	s := newShelf()
	for _, depth := range []int{15, 16, 17, 100, 2000} {
		l := filesOf(strings.Repeat("d/", depth)+"x", strings.Repeat("d/", depth)+"y")
		root := s.plant(l)
		if got, e := tree.Files(s.look, root, ""); e != api.OK || !slices.Equal(got, l.sorted()) {
			t.Errorf("%d deep: %s, %d", depth, toldFiles(got), e)
		}
		if got, e := tree.Diff(s.look, root, tree.Empty().Id); e != api.OK || len(got) != 2 || got[1].Path != strings.Repeat("d/", depth)+"y" {
			t.Errorf("%d deep: Diff: %s, %d", depth, toldStatus(got), e)
		}
	}
}

// R1, P16.3, P16.4: directories that name themselves are gone into till there are too many entries.
func TestDirectoriesThatNameThemselves(t *testing.T) {
	s := newShelf()
	self, other := id('s'), id('o')
	for _, names := range []string{"d", "df", "adz"} {
		entries := []api.Entry{}
		for _, name := range strings.Split(names, "") {
			entries = append(entries, fileAt(name, 1))
			if name == "d" {
				entries[len(entries)-1] = api.Entry{Name: "d", Kind: api.KDir, Id: self, Size: int64(len(names))}
			}
		}
		o, _ := object.Leaf(pairsOf(entries...)...)
		s.lay(api.Object{Id: self, Bytes: o.Bytes})
		entries[len(names)/2].Id = other // d's, or another file's
		o, _ = object.Leaf(pairsOf(entries...)...)
		s.lay(api.Object{Id: other, Bytes: o.Bytes})
		wantFiles(t, "a directory in itself", s, self, "")
		wantFiles(t, "a directory in itself", s, self, "d/d/d")
		if got, e := tree.Files(s.look, self, ""); len(got) != 0 || e != api.ErrTreeMany {
			t.Errorf("%q: %s, %d", names, toldFiles(got), e)
		}
		wantDiffError(t, "a directory in itself", s, self, tree.Empty().Id, api.ErrTreeMany)
		wantDiff(t, "two directories in themselves", s, self, other)
		wantEdit(t, "a directory in itself", s, self, lay("d/d/d/x", 1))
		wantEdit(t, "a directory in itself", s, self, gone("d/d/d"))
	}
}

// R1: of many entries in a directory that names itself no more is held in memory than may be met.
func TestManyEntriesInADirectoryThatNamesItself(t *testing.T) {
	s := newShelf()
	self := id('s')
	for _, name := range []string{"a", "z"} { // ahead of the files, and behind them
		entries := []api.Entry{{Name: name, Kind: api.KDir, Id: self, Size: 64}}
		for _, file := range numbered("f", 63) {
			entries = append(entries, fileAt(file, 1))
		}
		o, e := object.Leaf(pairsOf(entries...)...)
		if e != api.OK {
			t.Fatal(e)
		}
		s.lay(api.Object{Id: self, Bytes: o.Bytes})
		if held := heldAtMost(s, func(get api.Get) { _, e = tree.Files(get, self, "") }); e != api.ErrTreeMany || held > 32<<20 {
			t.Errorf("%q: %d, with %d bytes held", name, e, held)
		}
		wantDiffError(t, "many entries", s, self, tree.Empty().Id, api.ErrTreeMany)
	}
}

// heldAtMost is how many bytes more than at first are held when get is asked, now and then.
func heldAtMost(s *shelf, call func(api.Get)) int64 {
	held := func() int64 {
		var m runtime.MemStats
		runtime.GC()
		runtime.ReadMemStats(&m)
		return int64(m.HeapAlloc)
	}
	first, most, asked := held(), int64(0), 0
	call(func(id string) (string, api.Errno) {
		if asked++; asked%3000 == 0 {
			most = max(most, held()-first)
		}
		return s.look(id)
	})
	return most
}

// R1: a get whose answers are never the same.
func TestGetThatChanges(t *testing.T) {
	x := newBroken()
	for seed := range int64(300) {
		r := newDraw(seed)
		bytes := x.someBytes(r)
		get := func(string) (string, api.Errno) { return bytes[r.Intn(len(bytes))], api.OK }
		for _, at := range x.paths {
			tree.Find(get, x.root, at)
			tree.List(get, x.root, at)
			tree.Files(get, x.root, at)
		}
		if l, e := tree.Diff(get, x.root, x.others[0]); e != api.OK && len(l) != 0 {
			t.Errorf("Diff: %s beside %d", toldStatus(l), e)
		}
		if root, objs, e := tree.Edit(get, x.root, x.edits...); e != api.OK && (root != "" || len(objs) != 0) {
			t.Errorf("Edit: %s beside %d", heads(idsOf(objs)), e)
		}
	}
}
