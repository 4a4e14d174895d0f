package tree_test

import (
	"slices"
	"testing"

	"tussock/api"
	"tussock/object"
	"tussock/prolly"
	"tussock/tree"
)

// some are files whose names stand otherwise by bytes than paths do, at several depths.
func some() files {
	return filesOf("a/b/c", "a/b/d/e", "a/b/d/f", "a/d", "a-b", "a.b/c", "b/b/b/b", "c", "\xff/\x01")
}

// somePaths are such at which something stands in some, or nothing, or below which it does.
func somePaths() []string {
	return []string{"", "a", "a/b", "a/b/c", "a/b/d", "a/b/d/e", "a/d", "a-b", "a.b", "a.b/c", "b/b/b", "b/b/b/b", "c", "\xff", "\xff/\x01",
		"x", "a/x", "a/b/x", "a/b/d/x", "a/x/y", "x/y/z", "a/d/x", "c/x", "c/x/y", "a/b/c/d/e", "A", "a/", "a//d", "a/b/../d"}
}

// P16.1: the object of the map without pairs.
func TestEmpty(t *testing.T) {
	want, e := object.Leaf()
	root, _, e2 := prolly.Build()
	if got := tree.Empty(); got != want || got.Id != root || got.Bytes != "L\x00" || e != api.OK || e2 != api.OK {
		t.Errorf("%s %q; want %s", head(got.Id), got.Bytes, head(root))
	}
}

// P16.1: the chapter's examples.
func TestExamplesOfFind(t *testing.T) {
	s := newShelf()
	root := wantEdit(t, "a/b/c and a/d laid", s, tree.Empty().Id, lay("a/b/c", 1), lay("a/d", 2))
	if x := entry(t, s, root, "a/b"); x.Name != "b" || x.Kind != api.KDir || x.Size != 1 || len(x.Id) != 32 {
		t.Errorf("a/b: %s", toldEntries([]api.Entry{x}))
	}
	if x := entry(t, s, root, "a/b/c"); x != (api.Entry{Name: "c", Kind: api.KFile, Id: id(1), Size: 1}) {
		t.Errorf("a/b/c: %s", toldEntries([]api.Entry{x}))
	}
	for path, want := range map[string]api.Errno{"a/x": api.ErrTreeNone, "a/d/x": api.ErrTreeNotDir, "a//d": api.ErrPathForm, "x": api.ErrTreeNone, "x/y": api.ErrTreeNone, "a/b/c/d/e": api.ErrTreeNotDir} {
		wantReadError(t, "an example", s, root, path, want)
	}
	if l, e := tree.List(s.get, root, "a"); e != api.OK || !slices.Equal(l, []api.Entry{entry(t, s, root, "a/b"), entry(t, s, root, "a/d")}) {
		t.Errorf("List(a): %s, %d", toldEntries(l), e)
	}
}

// wantReadError asks Find, List and Files for one error, and nothing beside it.
func wantReadError(t *testing.T, what string, s *shelf, root, at string, want api.Errno) {
	t.Helper()
	if x, e := tree.Find(s.look, root, at); x != (api.Entry{}) || e != want {
		t.Errorf("%s: Find(%.40q): %s, %d; want %d alone", what, at, toldEntries([]api.Entry{x}), e, want)
	}
	wantListError(t, what, s, root, at, want)
	wantRead(t, what, s, root, at)
}

func wantListError(t *testing.T, what string, s *shelf, root, at string, want api.Errno) {
	t.Helper()
	if l, e := tree.List(s.look, root, at); len(l) != 0 || e != want {
		t.Errorf("%s: List(%.40q): %s, %d; want %d alone", what, at, toldEntries(l), e, want)
	}
	if l, e := tree.Files(s.look, root, at); len(l) != 0 || e != want {
		t.Errorf("%s: Files(%.40q): %s, %d; want %d alone", what, at, toldFiles(l), e, want)
	}
}

// P16.1: what stands at each path, or why nothing does.
func TestFindAndList(t *testing.T) {
	s := newShelf()
	root := s.plant(some())
	wantRead(t, "some files", s, root, somePaths()...)
	wantRead(t, "some files", s, root, oddPaths()...)
	wantRead(t, "no files", s, tree.Empty().Id, somePaths()...)
	for _, at := range oddPaths() {
		odd := s.plant(filesOf(at))
		wantRead(t, "an odd path", s, odd, at, dirOf(at))
		if x := entry(t, s, odd, at); x.Kind != api.KFile || x.Id != id(1) || x.Size != 1 {
			t.Errorf("%.40q: %s", at, toldEntries([]api.Entry{x}))
		}
	}
}

// P16.1: the root is no entry's: its id comes back, whatever it is, and nothing is asked.
func TestFindTheRoot(t *testing.T) {
	s := newShelf()
	for _, root := range []string{tree.Empty().Id, s.plant(some()), id('n'), "", "short", repeated('l', 1000)} {
		var x api.Entry
		var e api.Errno
		asked := s.askedOf(func() { x, e = tree.Find(s.get, root, "") })
		if x != (api.Entry{Kind: api.KDir, Id: root}) || e != api.OK || len(asked) != 0 {
			t.Errorf("the root %.8q: %s, %d, asked for %d", root, toldEntries([]api.Entry{x}), e, len(asked))
		}
	}
	for _, root := range []string{id('n'), "", "short"} {
		wantListError(t, "a root that is not there", s, root, "", api.ErrMissing)
		wantReadError(t, "a root that is not there", s, root, "a", api.ErrMissing)
	}
	if l, e := tree.List(s.get, tree.Empty().Id, ""); len(l) != 0 || e != api.OK {
		t.Errorf("List of the empty tree: %s, %d", toldEntries(l), e)
	}
}

// P16.1, P16.3: a text that is no path is told ahead of all else, and nothing is asked.
func TestTextsThatAreNoPath(t *testing.T) {
	s := newShelf()
	for _, root := range []string{s.plant(some()), id('n')} {
		for _, at := range noPaths() {
			asked := s.askedOf(func() {
				tree.Find(s.get, root, at)
				tree.List(s.get, root, at)
				tree.Files(s.get, root, at)
			})
			if len(asked) != 0 {
				t.Errorf("%.40q: asked for %d", at, len(asked))
			}
			wantReadError(t, "no path", s, root, at, api.ErrPathForm)
		}
	}
}

// P16.1: names of entries stand by their bytes, which is not how whole paths do.
func TestListByRisingNames(t *testing.T) {
	s := newShelf()
	root := s.plant(filesOf("a/x", "a-b", "a", "a!").without("a").with("\x01", 1).with("\xff", 2).with("B", 3))
	l, e := tree.List(s.get, root, "")
	var names []string
	for _, x := range l {
		names = append(names, x.Name)
	}
	if want := []string{"\x01", "B", "a", "a!", "a-b", "\xff"}; e != api.OK || !slices.Equal(names, want) {
		t.Errorf("%q, %d; want %q", names, e, want)
	}
}

// P16.1: one goes to the path alone: of a great tree a node a level of each directory on the way is asked for, and no other one.
func TestFindAsksForTheWayAlone(t *testing.T) {
	s := newShelf()
	l := filesOf(numbered("d/e/f", 3000)...)
	for _, p := range numbered("d/g", 500) {
		l[p+"/x"] = part(7)
	}
	root := s.plant(l)
	for _, at := range []string{"d", "d/e", "d/e/f10000", "d/e/f12999", "d/g10250", "d/g10250/x", "d/e/none", "none/e"} {
		wantFind(t, "a great tree", s, root, at)
		asked := s.askedOf(func() { tree.Find(s.get, root, at) })
		if len(asked) > 12 {
			t.Errorf("Find(%q) asked for %d objects of %d", at, len(asked), len(s.has))
		}
	}
	wantList(t, "a great directory", s, root, "d/e")
	wantList(t, "a great directory", s, root, "d")
}

// P16.1: what does not lie on the way may be missing.
func TestFindPastWhatIsMissing(t *testing.T) {
	s := newShelf()
	root := s.plant(some())
	for _, at := range []string{"a", "a.b", "b/b", "\xff"} {
		delete(s.has, entry(t, s, root, at).Id)
	}
	want := entry(t, s, root, "a-b")
	if want.Kind != api.KFile {
		t.Errorf("a-b: %s", toldEntries([]api.Entry{want}))
	}
	if l, e := tree.List(s.look, root, ""); len(l) != 6 || e != api.OK {
		t.Errorf("List of the root: %s, %d", toldEntries(l), e)
	}
	wantRead(t, "missing directories", s, root, somePaths()...)
	wantReadError(t, "a missing directory", s, root, "a/b", api.ErrMissing)
	if x := entry(t, s, root, "a"); x.Kind != api.KDir || x.Size != 2 {
		t.Errorf("a: %s", toldEntries([]api.Entry{x}))
	}
	wantListError(t, "a missing directory", s, root, "a", api.ErrMissing)
}

// R4: a nil get is answered by ErrNil, behind what the promises name first.
func TestNilGet(t *testing.T) {
	s := newShelf()
	root := tree.Empty().Id
	for path, want := range map[string]api.Errno{"": api.ErrNil, "a": api.ErrNil, "a/b": api.ErrNil, "a//b": api.ErrPathForm} {
		if x, e := tree.Find(nil, root, path); x != (api.Entry{}) || e != want {
			t.Errorf("Find(%q): %d; want %d", path, e, want)
		}
		if l, e := tree.List(nil, root, path); len(l) != 0 || e != want {
			t.Errorf("List(%q): %d; want %d", path, e, want)
		}
		if l, e := tree.Files(nil, root, path); len(l) != 0 || e != want {
			t.Errorf("Files(%q): %d; want %d", path, e, want)
		}
	}
	for want, edits := range map[api.Errno][]api.Edit{api.ErrNil: {lay("a", 1)}, api.ErrPathForm: {gone("a//b")}, api.ErrArg: {{File: api.File{Path: "a"}}}} {
		if got, objs, e := tree.Edit(nil, root, edits...); got != "" || len(objs) != 0 || e != want {
			t.Errorf("Edit(%s): %d; want %d", toldEdits(edits), e, want)
		}
	}
	if got, objs, e := tree.Edit(nil, root); got != "" || len(objs) != 0 || e != api.ErrNil {
		t.Errorf("Edit: %d; want %d", e, api.ErrNil)
	}
	for _, other := range []string{root, s.plant(some())} {
		if l, e := tree.Diff(nil, root, other); len(l) != 0 || e != api.ErrNil {
			t.Errorf("Diff: %d; want %d", e, api.ErrNil)
		}
	}
}
