package tree_test

import (
	"maps"
	"strings"
	"testing"

	"tussock/api"
	"tussock/object"
	"tussock/tree"
)

// broken is a tree of directories within one another, each of several nodes, so that one may be missing.
type broken struct {
	*shelf
	root   string
	dirs   map[string]api.Entry // those on the way to the last one, by their paths
	paths  []string             // some at which to read
	edits  []api.Edit           // some that are right
	others []string             // roots of trees that have some in common with it
}

func newBroken() broken {
	s := newShelf()
	l := filesOf(numbered("f", 100)...)
	for _, dir := range []string{"m/", "m/n/", "m/n/o/"} {
		for _, p := range numbered(dir+"f", 100) {
			l[p] = part(3)
		}
	}
	x := broken{shelf: s, root: s.plant(l), dirs: map[string]api.Entry{}}
	x.dirs[""] = api.Entry{Kind: api.KDir, Id: x.root}
	for _, at := range []string{"m", "m/n", "m/n/o"} {
		x.dirs[at], _ = tree.Find(s.look, x.root, at)
	}
	x.paths = []string{"", "m", "m/n", "m/n/o", "m/n/o/f10050", "m/n/f10099", "m/f10000", "f10000", "f10099", "m/x", "m/n/o/x/y", "x", "f10000/x"}
	x.edits = []api.Edit{lay("m/n/o/f10050", 9), lay("m/x", 9), lay("y", 9), gone("m/n/f10001"), lay("m/n/o/x/y", 9), gone("m/n/o"), gone("m/n")}
	x.others = []string{s.plant(l.with("m/n/o/f10050", 9)), s.plant(l.with("x", 9)), s.plant(l.without("m/n/f10050")), tree.Empty().Id}
	return x
}

// readAll asks each call for what the plain reckoning says.
func (x broken) readAll(t *testing.T, what string) {
	t.Helper()
	wantRead(t, what, x.shelf, x.root, x.paths...)
	for _, edit := range x.edits {
		x.wantKept(t, what, edit)
	}
	x.wantKept(t, what, x.edits...)
	for _, other := range x.others {
		wantDiff(t, what, x.shelf, x.root, other)
	}
}

// wantKept does edits, without what they make.
func (x broken) wantKept(t *testing.T, what string, edits ...api.Edit) {
	t.Helper()
	was := x.has
	x.has = maps.Clone(was)
	wantEdit(t, what, x.shelf, x.root, edits...)
	x.has = was
}

// wantAll asks all calls that come into a directory for an error.
func (x broken) wantAll(t *testing.T, what, dir string, want api.Errno) {
	t.Helper()
	wantListError(t, what, x.shelf, x.root, dir, want)
	within := strings.TrimPrefix(dir+"/new", "/")
	for _, edit := range []api.Edit{lay(within, 1), lay(within+"/y", 1), gone(within)} {
		wantEditError(t, what, x.shelf, x.root, want, edit)
	}
	wantEditError(t, what, x.shelf, x.root, want, lay(within, 1), gone("m"))
	wantDiffError(t, what, x.shelf, x.root, tree.Empty().Id, want)
	for above := dirOf(dir); dir != ""; dir, above = above, dirOf(above) {
		if l, e := tree.Files(x.look, x.root, above); len(l) != 0 || e != want {
			t.Errorf("%s: Files(%q): %d files, %d; want %d alone", what, above, len(l), e, want)
		}
	}
}

// P16.1 to P16.4: a get that answers an error, nothing, or another object, at the root, in the middle, at the last directory.
func TestDirectoriesThatAreNotThere(t *testing.T) {
	x := newBroken()
	x.readAll(t, "whole")
	chunk, _ := object.Chunk("abc")
	other, _ := object.Leaf(pairsOf(fileAt("z", 1))...)
	for dir, d := range x.dirs {
		was := x.has[d.Id]
		for _, e := range errorsOfGet {
			x.errs[d.Id] = e
			x.wantAll(t, "an error of get", dir, e)
			x.readAll(t, "an error of get")
			delete(x.errs, d.Id)
		}
		delete(x.has, d.Id)
		x.wantAll(t, "missing", dir, api.ErrMissing)
		x.readAll(t, "missing")
		for what, b := range map[string]string{"no bytes": "", "a chunk": chunk.Bytes, "half of the bytes": was[:len(was)/2], "a byte more": was + "\x00"} {
			x.has[d.Id] = b
			x.wantAll(t, what, dir, api.ErrProllyCorrupt)
			x.readAll(t, what)
		}
		for what, b := range map[string]string{"no entries": "L\x00", "one entry": other.Bytes} {
			x.has[d.Id] = b
			x.readAll(t, what)
			if dir != "" {
				x.wantAll(t, what, dir, api.ErrTreeForm)
			}
		}
		x.has[d.Id] = was
	}
}

// P16.1 to P16.4: each node of each directory missing, or an empty one's, in turn: some of the calls come to it, and others do not.
func TestEachNodeMissing(t *testing.T) {
	x := newBroken()
	for id, was := range maps.Clone(x.has) {
		delete(x.has, id)
		x.readAll(t, "a node is missing")
		x.has[id] = "L\x00"
		x.readAll(t, "a node is an empty one's")
		x.has[id] = was
	}
}

// P16.1: the value of a name on the way, or the last one, is no entry's.
func TestValuesThatAreNoEntrys(t *testing.T) {
	s := newShelf()
	dir := s.dir("d", fileAt("x", 1))
	right := pairsOf(dir, fileAt("f", 2))
	for what, val := range noValues(dir) {
		for _, at := range []int{0, 1} {
			pairs := append([]api.Pair(nil), right...)
			pairs[at].Val = val
			root := s.build(pairs...)
			below := s.build(pairsOf(api.Entry{Name: "u", Kind: api.KDir, Id: root, Size: 2})...)
			wantValueError(t, what, s, root, below, pairs[at].Key, pairs[1-at].Key)
		}
	}
}

// noValues are values that no entry has.
func noValues(dir api.Entry) map[string]string {
	good := pairsOf(dir)[0].Val
	return map[string]string{
		"no bytes": "", "a text": "value", "a byte less": good[:len(good)-1], "a byte more": good + "\x00", "an unknown kind": "\x06" + good[1:], "the kind 0": "\x00" + good[1:],
		"a directory of Size 0": good[:33] + "\x00", "a directory of Size -1": good[:33] + "\x01", "a directory of Size 4097": good[:33] + "\x82\x40",
		"a file of Size -1": "\x02" + good[1:33] + "\x01", "a file of Size 262145": "\x02" + good[1:33] + "\x82\x80\x20", "a Size of two bytes": good[:33] + "\x82\x00",
	}
}

func wantValueError(t *testing.T, what string, s *shelf, root, below, name, other string) {
	t.Helper()
	for _, at := range []string{name, name + "/x", name + "/x/y"} {
		wantReadError(t, what, s, root, at, api.ErrTreeForm)
		wantReadError(t, what, s, below, "u/"+at, api.ErrTreeForm)
	}
	wantFind(t, what, s, root, other)
	wantFind(t, what, s, below, "u/"+other)
	for _, edit := range []api.Edit{lay("new", 1), lay(name, 1), lay(name+"/x", 1), gone(name), gone(other), gone("new")} {
		wantEditError(t, what, s, root, api.ErrTreeForm, edit)
		edit.Path = "u/" + edit.Path
		wantEditError(t, what, s, below, api.ErrTreeForm, edit)
	}
	wantListError(t, what, s, root, "", api.ErrTreeForm)
	wantListError(t, what, s, below, "u", api.ErrTreeForm)
	for _, x := range []string{tree.Empty().Id, s.plant(some()), s.dir("", fileAt("new", 1)).Id} {
		wantDiffError(t, what, s, root, x, api.ErrTreeForm)
		wantDiffError(t, what, s, below, x, api.ErrTreeForm)
	}
	wantEdit(t, what+", taken away with all", s, below, gone("u"))
}

// P16.1: a key that is no name has no entry, whatever its value; others are found beside it.
func TestKeysThatAreNoNames(t *testing.T) {
	s := newShelf()
	val := pairsOf(fileAt("f", 1))[0].Val
	for _, key := range []string{".", "..", "a/b", "/", "\x00", "a\x00", "g/"} {
		pairs := append(pairsOf(fileAt("f", 1)), api.Pair{Key: key, Val: val})
		if key < "f" {
			pairs[0], pairs[1] = pairs[1], pairs[0]
		}
		root := s.build(pairs...)
		wantFind(t, "a key that is no name", s, root, "f")
		wantFind(t, "a key that is no name", s, root, "a/b")
		wantListError(t, "a key that is no name", s, root, "", api.ErrTreeForm)
		wantEditError(t, "a key that is no name", s, root, api.ErrTreeForm, lay("x", 1))
		wantDiffError(t, "a key that is no name", s, root, tree.Empty().Id, api.ErrTreeForm)
	}
}

// P16.4: what two directories share must be as it must be, too, where they are gone into.
func TestDiffOfWhatIsSharedAndBroken(t *testing.T) {
	s := newShelf()
	shared := api.Pair{Key: "bad", Val: "no entry's"}
	one, two := s.build(append(pairsOf(fileAt("a", 1)), shared)...), s.build(append(pairsOf(fileAt("a", 2)), shared)...)
	wantDiffError(t, "a shared value that is no entry's", s, one, two, api.ErrTreeForm)
	x := newBroken()
	for id, was := range maps.Clone(x.has) {
		delete(x.has, id)
		for _, other := range x.others {
			wantDiff(t, "a node is missing, shared or not", x.shelf, x.root, other)
		}
		x.has[id] = was
	}
}

// P16.1 to P16.4: a directory whose Size is one less or one more than it has, or that has no entry.
func TestSizesThatAreNotSo(t *testing.T) {
	s := newShelf()
	for many := range 4 {
		var entries []api.Entry
		for i := range many {
			entries = append(entries, fileAt(string([]byte{'f' + byte(i)}), 1))
		}
		for _, by := range []int64{-1, 1, 100} {
			d := s.dir("d", entries...)
			if d.Size += by; d.Size < 1 {
				continue
			}
			root := s.dir("", d, s.dir("e", fileAt("x", 1))).Id
			below := s.dir("", s.dir("u", d)).Id
			wantSizeError(t, "a Size that is not so", s, root, "d")
			wantSizeError(t, "a Size that is not so, further down", s, below, "u/d")
		}
	}
}

// wantSizeError asks for what a wrong Size of a directory makes: it is listed nowhere, but gone through and taken away.
func wantSizeError(t *testing.T, what string, s *shelf, root, dir string) {
	t.Helper()
	wantRead(t, what, s, root, dir, dir+"/f", dir+"/none", "e")
	if x := entry(t, s, root, dir); x.Kind != api.KDir {
		t.Errorf("%s: %s", what, toldEntries([]api.Entry{x}))
	}
	wantListError(t, what, s, root, dir, api.ErrTreeForm)
	if _, e := tree.Files(s.look, root, ""); e != api.ErrTreeForm {
		t.Errorf("%s: Files: %d", what, e)
	}
	for _, edit := range []api.Edit{lay(dir+"/new", 1), gone(dir + "/f"), gone(dir + "/none"), lay(dir+"/x/y", 1)} {
		wantEditError(t, what, s, root, api.ErrTreeForm, edit)
	}
	wantEditError(t, what, s, root, api.ErrTreeDir, lay(dir, 1))
	wantEdit(t, what, s, root, gone(dir))
	wantEdit(t, what, s, root, lay("new", 1))
	wantDiffError(t, what, s, root, tree.Empty().Id, api.ErrTreeForm)
	wantDiff(t, what+", on both sides", s, root, wantEdit(t, what, s, root, lay("new", 1)))
}

// P16.4: two directories of one map and of other Sizes: at least one of them is not as it must be.
func TestDiffOfOneMapAndOtherSizes(t *testing.T) {
	s := newShelf()
	right := s.dir("d", fileAt("f", 1), fileAt("g", 2))
	less, more := right, right
	less.Size, more.Size = 1, 3
	for _, x := range [][2]api.Entry{{right, less}, {right, more}, {less, more}} {
		wantDiffError(t, "other Sizes of one map", s, s.dir("", x[0]).Id, s.dir("", x[1]).Id, api.ErrTreeForm)
	}
	same := s.dir("", less, fileAt("z", 1)).Id
	wantDiff(t, "the same entry, whatever it says", s, same, s.dir("", less, fileAt("z", 2)).Id)
	if l, e := tree.Diff(s.look, same, s.dir("", less).Id); len(l) != 1 || e != api.OK {
		t.Errorf("the same entry, whatever it says: %s, %d", toldStatus(l), e)
	}
}
