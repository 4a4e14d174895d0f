package tree_test

import (
	"slices"
	"strings"
	"testing"

	"tussock/api"
	"tussock/prolly"
	"tussock/tree"
)

// wantMade does edits, and asks for the tree of some files.
func wantMade(t *testing.T, what string, s *shelf, root string, want files, edits ...api.Edit) string {
	t.Helper()
	got := wantEdit(t, what, s, root, edits...)
	if due := s.plant(want); got != due {
		t.Errorf("%s: %s; want %s, of %d files", what, head(got), head(due), len(want))
	}
	return got
}

// P16.2: the chapter's examples.
func TestExamplesOfEdit(t *testing.T) {
	s := newShelf()
	root := wantMade(t, "laid", s, tree.Empty().Id, filesOf("a/b/c", "a/d"), lay("a/b/c", 1), lay("a/d", 2))
	wantEditError(t, "below a file", s, root, api.ErrTreeNotDir, lay("a/b/c/x", 3))
	wantEditError(t, "on a directory", s, root, api.ErrTreeDir, lay("a/b", 3))
	wantMade(t, "gone", s, root, filesOf("a/b/c", "a/d").without("a/b/c"), gone("a/b/c"))
}

// P16.2: no edits: the same root, whatever it is, no objects, and nothing is asked.
func TestNoEdits(t *testing.T) {
	s := newShelf()
	for _, root := range []string{tree.Empty().Id, s.plant(some()), id('n'), "", "short"} {
		var got string
		var objs []api.Object
		var e api.Errno
		asked := s.askedOf(func() { got, objs, e = tree.Edit(s.get, root) })
		if got != root || len(objs) != 0 || e != api.OK || len(asked) != 0 {
			t.Errorf("%q: %q, %d objects, %d, asked for %d", root, got, len(objs), e, len(asked))
		}
	}
}

// P16.2: files are laid where nothing stands, or another file; twice in one call the last one stands.
func TestLay(t *testing.T) {
	s := newShelf()
	root := s.plant(some())
	for _, at := range []string{"new", "a/new", "a/b/new", "new/new", "a/new/new/new", "c", "a/d", "a/b/d/e", "a-b/x", "b/b/c"} {
		if at == "a-b/x" {
			wantEditError(t, "below a file", s, root, api.ErrTreeNotDir, lay(at, 99))
			continue
		}
		wantMade(t, "laid", s, root, some().with(at, 99), lay(at, 99))
		wantMade(t, "laid twice", s, root, some().with(at, 98), lay(at, 99), lay(at, 98))
		wantMade(t, "laid, and others", s, root, some().with(at, 98).with("z", 1).with("a/b/z", 2), lay("z", 1), lay(at, 98), lay("a/b/z", 2))
	}
	for _, at := range oddPaths() {
		wantMade(t, "an odd path", s, root, some().with(at, 99), lay(at, 99))
	}
	wantMade(t, "the same part", s, root, some(), lay("a/d", some()["a/d"].Id[0]))
}

// P16.2: a part's Size is part of it.
func TestLayOtherSizes(t *testing.T) {
	s := newShelf()
	for _, size := range []int64{0, 1, 262143, 262144} {
		x := api.Edit{File: api.File{Path: "a/b", Part: api.Part{Id: id(0), Size: size}}}
		root := wantMade(t, "a Size", s, tree.Empty().Id, files{"a/b": x.Part}, x)
		if y := entry(t, s, root, "a/b"); y.Size != size || y.Id != id(0) {
			t.Errorf("the Size %d: %s", size, toldEntries([]api.Entry{y}))
		}
	}
}

// P16.2: a path that is none, or the root: ahead of all else.
func TestEditsOfNoPath(t *testing.T) {
	s := newShelf()
	for _, root := range []string{s.plant(some()), id('n')} {
		for _, at := range append(noPaths(), "") {
			for _, x := range []api.Edit{lay(at, 1), gone(at), {File: api.File{Path: at}}, {File: api.File{Path: at, Part: part(1)}, Gone: true}} {
				if asked := s.askedOf(func() { wantEditError(t, "no path", s, root, api.ErrPathForm, x) }); len(asked) != 0 {
					t.Errorf("%.40q: asked for %d", at, len(asked))
				}
			}
		}
	}
}

// P16.2: Ids and Sizes that are not right: behind the path, ahead of what stands there.
func TestEditsOfNoPart(t *testing.T) {
	s := newShelf()
	var wrong, right []api.Part
	for _, n := range []int{0, 1, 31, 32, 33, 64} {
		for _, size := range []int64{-1 << 63, -1, 0, 1, 262144, 262145, 1<<63 - 1} {
			p := api.Part{Id: repeated('i', n), Size: size}
			if n == 32 && size >= 0 && size <= 262144 {
				right = append(right, p)
			} else {
				wrong = append(wrong, p)
			}
		}
	}
	for _, root := range []string{s.plant(some()), id('n')} {
		for _, at := range []string{"new", "a", "a/b", "a/d", "a/d/x", "x/y/z"} {
			for _, p := range wrong {
				if asked := s.askedOf(func() { wantEditError(t, "no part", s, root, api.ErrArg, api.Edit{File: api.File{Path: at, Part: p}}) }); len(asked) != 0 {
					t.Errorf("%q: asked for %d", at, len(asked))
				}
			}
			for _, p := range append(wrong, right...) {
				if p != (api.Part{}) {
					wantEditError(t, "gone with a part", s, root, api.ErrArg, api.Edit{File: api.File{Path: at, Part: p}, Gone: true})
				}
			}
		}
	}
	for _, p := range right {
		wantMade(t, "a part", s, tree.Empty().Id, files{"a/b": p}, api.Edit{File: api.File{Path: "a/b", Part: p}})
	}
}

// P16.2: files where directories must be, and the other way round, on the way and at its end.
func TestFilesAndDirectoriesInEachOthersPlace(t *testing.T) {
	s := newShelf()
	root := s.plant(some())
	for at, want := range map[string]api.Errno{
		"c/x": api.ErrTreeNotDir, "c/x/y": api.ErrTreeNotDir, "a/d/x": api.ErrTreeNotDir, "a/b/c/x/y/z": api.ErrTreeNotDir, "a/b/d/e/x": api.ErrTreeNotDir, "a-b/x": api.ErrTreeNotDir,
		"a": api.ErrTreeDir, "a/b": api.ErrTreeDir, "a/b/d": api.ErrTreeDir, "b/b/b": api.ErrTreeDir, "\xff": api.ErrTreeDir,
	} {
		wantEditError(t, "laid", s, root, want, lay(at, 9))
		if want == api.ErrTreeNotDir {
			wantEditError(t, "gone", s, root, want, gone(at))
		}
		wantEditError(t, "behind another edit", s, root, want, lay("z", 9), lay(at, 9))
		wantEditError(t, "ahead of another edit", s, root, want, lay(at, 9), gone("none"))
	}
	wantEditError(t, "a file that was just laid", s, root, api.ErrTreeNotDir, lay("x/y", 1), lay("x/y/z", 2))
	wantEditError(t, "a directory that was just made", s, root, api.ErrTreeDir, lay("x/y/z", 1), lay("x/y", 2))
	wantEditError(t, "gone below a file that was just laid", s, root, api.ErrTreeNotDir, lay("x/y", 1), gone("x/y/z"))
}

// P16.2: nothing stands there, or on the way.
func TestGoneOfNothing(t *testing.T) {
	s := newShelf()
	root := s.plant(some())
	for _, at := range []string{"x", "x/y", "x/y/z/x/y/z", "a/x", "a/x/y", "a/b/d/x", "b/b/b/x/y", "A"} {
		wantEditError(t, "gone", s, root, api.ErrTreeNone, gone(at))
		wantEditError(t, "gone from the empty tree", s, tree.Empty().Id, api.ErrTreeNone, gone(at))
		wantEditError(t, "laid and gone twice", s, root, api.ErrTreeNone, lay(at, 1), gone(at), gone(at))
		wantMade(t, "laid and gone", s, root, some(), lay(at, 1), gone(at))
	}
	wantEditError(t, "gone twice", s, root, api.ErrTreeNone, gone("a/b"), gone("a/b/c"))
	wantEditError(t, "gone with all above", s, root, api.ErrTreeNone, gone("b/b/b/b"), gone("b"))
}

// P16.2: gone is a file, or a directory whole, and each one above that has nothing more, but not the root.
func TestGone(t *testing.T) {
	s := newShelf()
	root := s.plant(some())
	wantMade(t, "a file", s, root, some().without("a/d"), gone("a/d"))
	wantMade(t, "a directory", s, root, some().without("a/b/d/e", "a/b/d/f"), gone("a/b/d"))
	wantMade(t, "a directory of directories", s, root, some().without("a/b/c", "a/b/d/e", "a/b/d/f"), gone("a/b"))
	wantMade(t, "the last of several directories", s, root, some().without("b/b/b/b"), gone("b/b/b/b"))
	wantMade(t, "a directory that is the last of others", s, root, some().without("b/b/b/b"), gone("b/b/b"))
	wantMade(t, "one, then what it stood beside", s, root, some().without("a/b/c", "a/b/d/e", "a/b/d/f"), gone("a/b/c"), gone("a/b/d/e"), gone("a/b/d/f"))
	deep := strings.Repeat("d/", 15)
	all := filesOf(deep+"x", deep+"y")
	full := s.plant(all)
	wantMade(t, "one of the deepest", s, full, all.without(deep+"x"), gone(deep+"x"))
	if got := wantMade(t, "all of the deepest", s, full, files{}, gone(deep+"y"), gone(deep+"x")); got != tree.Empty().Id {
		t.Errorf("of nothing is left %s", head(got))
	}
	var each []api.Edit
	for at := range some() {
		each = append(each, gone(at))
	}
	if got := wantMade(t, "all of all", s, root, files{}, each...); got != tree.Empty().Id {
		t.Errorf("of nothing is left %s", head(got))
	}
	wantMade(t, "all of all, then another one", s, root, filesOf("new/one"), append(each, lay("new/one", 1))...)
}

// P16.2: a file is laid where a directory vanished just before, and the other way round.
func TestInThePlaceOfWhatVanished(t *testing.T) {
	s := newShelf()
	root := s.plant(some())
	noA := some().without("a/b/c", "a/b/d/e", "a/b/d/f")
	wantMade(t, "a file for a directory", s, root, noA.with("a/b", 9), gone("a/b"), lay("a/b", 9))
	wantMade(t, "a file for a directory that one came into", s, root, noA.with("a/b", 9), lay("a/b/x", 1), gone("a/b"), lay("a/b", 9))
	wantMade(t, "a file for one that lost its last entry", s, root, some().without("b/b/b/b").with("b/b", 9), gone("b/b/b/b"), lay("b/b", 9))
	wantMade(t, "a directory for a file", s, root, some().without("c").with("c/x", 9), gone("c"), lay("c/x", 9))
	wantMade(t, "a directory for one that vanished", s, root, noA.with("a/b/d/x", 9), gone("a/b"), lay("a/b/d/x", 9))
	wantMade(t, "a file for a file for a directory", s, root, noA.with("a/b/y", 9), gone("a/b"), lay("a/b", 1), gone("a/b"), lay("a/b/y", 9))
	wantEditError(t, "what vanished is not there", s, root, api.ErrTreeNone, gone("a/b"), lay("a/b/x", 1), gone("a/b/c"))
	one := s.plant(filesOf("d/x"))
	wantMade(t, "the last entry, and another one", s, one, filesOf("d/y"), gone("d/x"), lay("d/y", 1))
	wantMade(t, "another one, and the last entry", s, one, filesOf("d/y"), lay("d/y", 1), gone("d/x"))
}

// P16.2: a directory that vanished is not asked for when it is made anew; one that only goes is not asked for at all.
func TestWhatVanishedIsNotAsked(t *testing.T) {
	s := newShelf()
	root := s.plant(some())
	for _, at := range []string{"a/b", "b/b", "\xff"} {
		delete(s.has, entry(t, s, root, at).Id)
	}
	wantMade(t, "gone", s, root, some().without("a/b/c", "a/b/d/e", "a/b/d/f"), gone("a/b"))
	wantMade(t, "gone and made anew", s, root, some().without("a/b/c", "a/b/d/e", "a/b/d/f").with("a/b/x", 1), gone("a/b"), lay("a/b/x", 1))
	wantMade(t, "gone with what it stood alone in", s, root, some().without("b/b/b/b"), gone("b/b"))
	wantEditError(t, "a file on it", s, root, api.ErrTreeDir, lay("a/b", 1))
	delete(s.has, entry(t, s, root, "a").Id)
	wantEditError(t, "missing", s, root, api.ErrMissing, lay("a/b/x", 1))
	wantEditError(t, "missing", s, root, api.ErrMissing, gone("a/b"))
	wantMade(t, "past what is missing", s, root, some().with("z", 1), lay("z", 1))
}

// P16.2: each edit is done on what those ahead left: the first one that can't be done is told.
func TestWhichErrorComesFirst(t *testing.T) {
	s := newShelf()
	root := s.plant(some())
	delete(s.has, entry(t, s, root, "b").Id)
	wrong := map[api.Errno]api.Edit{
		api.ErrPathForm: lay("a//b", 1), api.ErrArg: {File: api.File{Path: "a"}}, api.ErrTreeNone: gone("none"),
		api.ErrTreeNotDir: lay("c/x", 1), api.ErrTreeDir: lay("a", 1), api.ErrMissing: lay("b/x", 1),
	}
	for first, x := range wrong {
		wantEditError(t, "one alone", s, root, first, x)
		wantEditError(t, "behind one that is right", s, root, first, lay("z", 1), x)
		for _, y := range wrong {
			wantEditError(t, "the first of two", s, root, first, x, y)
		}
	}
	both := api.Edit{File: api.File{Path: "a//b", Part: api.Part{Id: "short"}}}
	wantEditError(t, "no path and no part", s, root, api.ErrPathForm, both)
	wantEditError(t, "no part, and a directory", s, root, api.ErrArg, api.Edit{File: api.File{Path: "a", Part: api.Part{Id: "short"}}})
	wantEditError(t, "no part, and below a file", s, root, api.ErrArg, api.Edit{File: api.File{Path: "c/x", Part: api.Part{Size: 1}}, Gone: true})
	wantEditError(t, "no path, with a root that is not there", s, id('n'), api.ErrPathForm, gone("/"))
	wantEditError(t, "no part, with a root that is not there", s, id('n'), api.ErrArg, api.Edit{File: api.File{Path: "a"}})
	wantEditError(t, "a root that is not there", s, id('n'), api.ErrMissing, lay("a", 1))
	wantEditError(t, "a root that is not there", s, id('n'), api.ErrMissing, gone("a"))
}

// P16.2: a directory is listed when one first comes into it, once, even if it is left as it was.
func TestEachDirectoryIsListedOnce(t *testing.T) {
	s := newShelf()
	root := s.plant(some())
	listed := func(dirs ...string) []string {
		return s.askedOf(func() {
			for _, at := range dirs {
				prolly.List(s.get, entry(t, s, root, at).Id, "", "")
			}
		})
	}
	asked := s.askedOf(func() {
		tree.Edit(s.get, root, lay("z", 1), lay("a/x", 1), lay("a/b/x", 1), lay("b/x", 1), gone("a/b/x"), lay("a/b/y", 1), gone("z"), gone("a-b"))
	})
	wantAsked(t, "each once", asked, listed("", "a", "a/b", "b"))
	asked = s.askedOf(func() { tree.Edit(s.get, root, lay("c", 1), lay("x/y/z", 1), lay("x/y/u", 1)) })
	wantAsked(t, "new ones are not asked for", asked, listed(""))
}

// P16.2: what is answered: of each directory into which one came, by rising names, those within it, then its own, each once.
func TestObjectsInTheirOrder(t *testing.T) {
	s := newShelf()
	root := s.plant(some())
	now := some().with("a/b/x", 9).with("b/b/b/x", 9).with("a.b/x", 9)
	edits := []api.Edit{lay("b/b/b/x", 9), lay("a.b/x", 9), lay("a/b/x", 9)}
	made := wantMade(t, "several directories", s, root, now, edits...)
	_, objs, _ := tree.Edit(s.look, root, edits...)
	wantIds(t, "several directories", s, made, objs, "a/b", "a", "a.b", "b/b/b", "b/b", "b", "")
	_, objs, _ = tree.Edit(s.look, root, lay("z", 1), lay("a/d", 3))
	wantIds(t, "the root and one", s, wantEdit(t, "", s, root, lay("z", 1), lay("a/d", 3)), objs, "a", "")
	_, objs, _ = tree.Edit(s.look, root, lay("x/y/z", 1))
	wantIds(t, "new ones", s, wantEdit(t, "", s, root, lay("x/y/z", 1)), objs, "x/y", "x", "")
	_, objs, _ = tree.Edit(s.look, root, gone("a/b/c"), gone("b"), gone("a/b/d"))
	wantIds(t, "gone ones", s, wantEdit(t, "", s, root, gone("a/b/c"), gone("b"), gone("a/b/d")), objs, "a", "")
	_, objs, _ = tree.Edit(s.look, root, lay("a/d", 4), gone("a/b"))
	wantIds(t, "one that was not come into", s, wantEdit(t, "", s, root, lay("a/d", 4), gone("a/b")), objs, "a", "")
}

// wantIds asks for the objects of directories, as prolly builds them.
func wantIds(t *testing.T, what string, s *shelf, root string, objs []api.Object, dirs ...string) {
	t.Helper()
	var want []api.Object
	for _, at := range dirs {
		entries, e := tree.List(s.look, root, at)
		_, more, e2 := prolly.Build(pairsOf(entries...)...)
		if e != api.OK || e2 != api.OK {
			t.Fatalf("%s: %q can't be listed: %d", what, at, e)
		}
		want = append(want, more...)
	}
	if !slices.Equal(objs, want) {
		t.Errorf("%s: objects %s; want %s", what, heads(idsOf(objs)), heads(idsOf(want)))
	}
}

// P16.2: edits that left all as it was: the directories into which one came are answered all the same.
func TestEditsThatLeaveAllAsItWas(t *testing.T) {
	s := newShelf()
	root := s.plant(some())
	for _, edits := range [][]api.Edit{
		{lay("a/b/c", some()["a/b/c"].Id[0])}, {lay("a/b/x", 1), gone("a/b/x")}, {lay("a/b/c", 99), lay("a/b/c", some()["a/b/c"].Id[0])},
		{gone("a/b/c"), lay("a/b/c", some()["a/b/c"].Id[0])}, {lay("a/b/x/y", 1), gone("a/b/x")},
	} {
		if got := wantMade(t, "as it was", s, root, some(), edits...); got != root {
			t.Errorf("%s: another root", toldEdits(edits))
		}
		_, objs, _ := tree.Edit(s.look, root, edits...)
		wantIds(t, "as it was", s, root, objs, "a/b", "a", "")
	}
	_, objs, _ := tree.Edit(s.look, tree.Empty().Id, lay("x/y", 1), gone("x"))
	if !slices.Equal(objs, []api.Object{tree.Empty()}) {
		t.Errorf("the empty tree: %s", heads(idsOf(objs)))
	}
}

// P16.2: directories that are alike have one object, which is answered where it is made first.
func TestAlikeDirectoriesAreAnsweredOnce(t *testing.T) {
	s := newShelf()
	var edits []api.Edit
	for _, dir := range []string{"c", "a/c", "b", "a/b"} {
		edits = append(edits, lay(dir+"/x", 7), lay(dir+"/y", 8))
	}
	root := wantEdit(t, "alike directories", s, tree.Empty().Id, edits...)
	_, objs, _ := tree.Edit(s.look, tree.Empty().Id, edits...)
	wantIds(t, "alike directories", s, root, objs, "a/b", "a", "")
	great := filesOf(numbered("a/f", 300)...)
	for at, x := range great {
		great["b/"+at] = x
	}
	wantMade(t, "alike directories of many nodes", s, tree.Empty().Id, great, great.edits()...)
}

// P16.2: a great directory's objects are those that prolly builds, all of them.
func TestObjectsOfAGreatDirectory(t *testing.T) {
	s := newShelf()
	l := filesOf(numbered("d/f", 500)...)
	root := s.plant(l)
	made := wantMade(t, "a great directory", s, root, l.with("d/f10250", 99), lay("d/f10250", 99))
	_, objs, _ := tree.Edit(s.look, root, lay("d/f10250", 99))
	if wantIds(t, "a great directory", s, made, objs, "d", ""); len(objs) < 20 {
		t.Errorf("%d objects", len(objs))
	}
}

// P16.2: a directory whose map is of another shape than its pairs have is laid in that one, as soon as one comes into it.
func TestEditOfAnotherShape(t *testing.T) {
	s := newShelf()
	l := filesOf("d/a", "d/b", "d/c", "e/f")
	var leaves []api.Link
	for _, x := range []api.Entry{fileAt("a", 1), fileAt("b", 2), fileAt("c", 3)} {
		leaves = append(leaves, s.leaf(x))
	}
	odd := api.Entry{Name: "d", Kind: api.KDir, Id: s.branch(leaves...), Size: 3}
	root := s.dir("", odd, s.dir("e", api.Entry{Name: "f", Kind: api.KFile, Id: id(4), Size: 4})).Id
	wantRead(t, "another shape", s, root, "", "d", "d/a", "d/c", "d/x")
	wantMade(t, "another shape", s, root, l, lay("d/a", 1))
	if got := wantEdit(t, "another shape, not come into", s, root, lay("e/f", 4)); got != root {
		t.Errorf("one that nobody came into is not as it was: %s", head(got))
	}
	wantDiff(t, "another shape", s, root, s.plant(l))
	wantDiff(t, "another shape", s, root, s.plant(l.with("d/b", 9)))
	if st, e := tree.Diff(s.look, root, s.plant(l)); len(st) != 0 || e != api.OK {
		t.Errorf("the same files in another shape: %s, %d", toldStatus(st), e)
	}
}
