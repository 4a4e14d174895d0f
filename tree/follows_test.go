package tree_test

import (
	"slices"
	"strings"
	"testing"

	"tussock/api"
	"tussock/tree"
)

// edit does edits that can be done; their objects come to the shelf.
func (s *shelf) edit(t *testing.T, root string, edits ...api.Edit) string {
	t.Helper()
	now, objs, e := tree.Edit(s.look, root, edits...)
	if e != api.OK {
		t.Fatalf("Edit(%s): %d", toldEdits(edits), e)
	}
	s.lay(objs...)
	return now
}

// P16.5: a tree's root hangs on its files alone: however they came, one root.
func TestOneRootHoweverFilesCame(t *testing.T) {
	for seed := range int64(150) {
		r := newDraw(seed)
		s := newShelf()
		l := r.files(r.Intn(60))
		want := s.plant(l)
		if got := s.edit(t, tree.Empty().Id, l.edits()...); got != want {
			t.Fatalf("the seed %d: laid at once: %s; want %s", seed, head(got), head(want))
		}
		root := tree.Empty().Id
		for _, x := range l.edits() {
			root = s.edit(t, root, x)
		}
		if root != want {
			t.Fatalf("the seed %d: laid one by one: %s; want %s", seed, head(root), head(want))
		}
		other := r.files(20)
		if got := s.edit(t, s.plant(other), append(goneEdits(other), l.edits()...)...); got != want {
			t.Fatalf("the seed %d: in the place of others: %s; want %s", seed, head(got), head(want))
		}
	}
}

func goneEdits(l files) []api.Edit {
	var out []api.Edit
	for at := range l {
		out = append(out, gone(at))
	}
	return out
}

// P16.5: edits one behind the other are those of one call, in whatever pieces.
func TestEditsInPieces(t *testing.T) {
	for seed := range int64(200) {
		r := newDraw(seed)
		s := newShelf()
		l := r.files(r.Intn(40))
		edits, now := r.possible(l, 30)
		root := s.plant(l)
		want := s.edit(t, root, edits...)
		if due := s.plant(now); want != due {
			t.Fatalf("the seed %d: %s; want %s", seed, head(want), head(due))
		}
		for len(edits) > 0 {
			n := 1 + r.Intn(len(edits))
			root = s.edit(t, root, edits[:n]...)
			edits = edits[n:]
		}
		if root != want {
			t.Fatalf("the seed %d: in pieces: %s; want %s", seed, head(root), head(want))
		}
	}
}

// P16.5: what was laid is found, listed, and among the files; nothing else is.
func TestWhatWasLaidIsThere(t *testing.T) {
	for seed := range int64(150) {
		r := newDraw(seed)
		s := newShelf()
		_, now := r.possible(r.files(r.Intn(40)), 20)
		root := s.edit(t, tree.Empty().Id, now.edits()...)
		all, e := tree.Files(s.look, root, "")
		if e != api.OK || !slices.Equal(all, now.sorted()) {
			t.Fatalf("the seed %d: %s, %d; want %s", seed, toldFiles(all), e, toldFiles(now.sorted()))
		}
		for at, x := range now {
			want := api.Entry{Name: strings.TrimPrefix(at[len(dirOf(at)):], "/"), Kind: api.KFile, Id: x.Id, Size: x.Size}
			got, e := tree.Find(s.look, root, at)
			list, e2 := tree.List(s.look, root, dirOf(at))
			if got != want || e != api.OK || e2 != api.OK || !slices.Contains(list, want) {
				t.Fatalf("the seed %d: %q: %s, %d; listed %s, %d", seed, at, toldEntries([]api.Entry{got}), e, toldEntries(list), e2)
			}
		}
		for range 50 {
			wantRead(t, "drawn", s, root, r.path())
		}
	}
}

// P16.5: what became of files, done to the first tree, makes the second one: those that are gone first, as a directory may stand where a file was, and the other way round.
func TestWhatBecameMakesTheSecond(t *testing.T) {
	for seed := range int64(300) {
		r := newDraw(seed)
		s := newShelf()
		was := r.files(r.Intn(50))
		now := r.changed(was)
		a, b := s.plant(was), s.plant(now)
		for _, x := range []struct {
			from, to string
			files    files
		}{{a, b, now}, {b, a, was}} {
			told, e := tree.Diff(s.look, x.from, x.to)
			if got := s.edit(t, x.from, editsOf(told, x.files)...); e != api.OK || got != x.to {
				t.Fatalf("the seed %d: %s, %d makes %s; want %s", seed, toldStatus(told), e, head(got), head(x.to))
			}
		}
		if got, _ := tree.Diff(s.look, a, b); !slices.Equal(got, was.changes(now)) {
			t.Fatalf("the seed %d: %s; want %s", seed, toldStatus(got), toldStatus(was.changes(now)))
		}
	}
}

// editsOf do what became of files.
func editsOf(told []api.Status, now files) []api.Edit {
	var away, laid []api.Edit
	for _, x := range told {
		if x.What == api.Removed {
			away = append(away, gone(x.Path))
		} else {
			laid = append(laid, api.Edit{File: api.File{Path: x.Path, Part: now[x.Path]}})
		}
	}
	return append(away, laid...)
}

// P16.5: edits that are taken back leave the tree as it was.
func TestThereAndBack(t *testing.T) {
	for seed := range int64(200) {
		r := newDraw(seed)
		s := newShelf()
		l := r.files(1 + r.Intn(40))
		root := s.plant(l)
		edits, _ := r.possible(l, 20)
		other := s.edit(t, root, edits...)
		told, _ := tree.Diff(s.look, other, root)
		if got := s.edit(t, other, editsOf(told, l)...); got != root {
			t.Fatalf("the seed %d: there and back: %s; want %s", seed, head(got), head(root))
		}
		if got := s.edit(t, root, append(slices.Clone(edits), editsOf(told, l)...)...); got != root {
			t.Fatalf("the seed %d: there and back at once: %s; want %s", seed, head(got), head(root))
		}
		if now := s.edit(t, root, goneEdits(l)...); now != tree.Empty().Id {
			t.Fatalf("the seed %d: all gone: %s", seed, head(now))
		}
	}
}

// P16.5: what is answered is all that the new tree has and the old one has not.
func TestObjectsAreAllThatIsNew(t *testing.T) {
	for seed := range int64(200) {
		r := newDraw(seed)
		old, fresh := newShelf(), newShelf()
		l := r.files(r.Intn(60))
		root := old.plant(l)
		edits, now := r.possible(l, 10)
		got, objs, e := tree.Edit(old.look, root, edits...)
		due := fresh.plant(now)
		old.lay(objs...)
		for id, b := range fresh.has {
			if old.has[id] != b {
				t.Fatalf("the seed %d: %s of the new tree is missing", seed, head(id))
			}
		}
		if e != api.OK || got != due {
			t.Fatalf("the seed %d: %s, %d; want %s", seed, head(got), e, head(due))
		}
		ids := map[string]bool{}
		for _, id := range idsOf(objs) {
			ids[id] = true
		}
		if len(ids) != len(objs) {
			t.Fatalf("the seed %d: %d objects of %d ids", seed, len(objs), len(ids))
		}
		for id := range ids {
			if _, ok := fresh.has[id]; !ok {
				t.Fatalf("the seed %d: %s is none of the new tree's", seed, head(id))
			}
		}
	}
}
