package tree_test

import (
	"maps"
	"slices"
	"strings"
	"testing"

	"tussock/api"
	"tussock/tree"
)

// P16.1 to P16.4: drawn trees and edits, right and wrong, against the plain reckoning.
func TestDrawnTrees(t *testing.T) {
	for seed := range int64(1500) {
		r := newDraw(seed)
		s := newShelf()
		l := r.files(r.Intn(1 + r.Intn(80)))
		root := s.plant(l)
		for range 3 {
			wantRead(t, "drawn", s, root, r.path(), r.edit(l).Path)
			var edits []api.Edit
			for range r.Intn(8) {
				edits = append(edits, r.edit(l))
			}
			if next := wantEdit(t, "drawn", s, root, edits...); next != "" {
				wantDiff(t, "drawn", s, root, next)
				root = next
			}
		}
		wantRead(t, "drawn", s, root, "")
		if t.Failed() {
			t.Fatalf("the seed %d", seed)
		}
	}
}

// P16.1 to P16.4: drawn trees, broken by chance, against the plain reckoning.
func TestDrawnBrokenTrees(t *testing.T) {
	for seed := range int64(1200) {
		r := newDraw(seed)
		s := newShelf()
		l := r.files(1 + r.Intn(60))
		now := r.changed(l)
		a, b := s.plant(l), s.plant(now)
		r.harm(s)
		wantBroken(t, r, s, l, a, b)
		if t.Failed() {
			t.Fatalf("the seed %d", seed)
		}
	}
}

func wantBroken(t *testing.T, r draw, s *shelf, l files, a, b string) {
	t.Helper()
	wantRead(t, "broken", s, a, "", r.path(), r.edit(l).Path)
	wantDiff(t, "broken", s, a, b)
	edits, _ := r.possible(l, 1+r.Intn(8))
	was := maps.Clone(s.has)
	wantEdit(t, "broken", s, a, edits...)
	s.has = was
}

// scriptOf are edits that some bytes say: a name a letter, a path up to a sign.
func scriptOf(b []byte) []api.Edit {
	var out []api.Edit
	for line := range strings.SplitSeq(string(b), ";") {
		at, away := strings.CutPrefix(line, "-")
		if away {
			out = append(out, gone(at))
		} else {
			out = append(out, lay(at, byte(len(at))))
		}
	}
	return out
}

// P16.1 to P16.5: trees that some bytes say, and one of their objects that is other bytes.
func FuzzAsTheModel(f *testing.F) {
	f.Add([]byte("a/b/c;a/d;e"), []byte("-a/b/c;a/x;e/f"), 0, []byte("L\x00"))
	f.Add([]byte("a;a-b;a.b/c;b/b"), []byte("-a;a/b;-b"), 1, []byte("L\x02\x02a\x0410"))
	f.Add([]byte{}, []byte("a//b;/;-"), 2, []byte{})
	f.Add([]byte("a/b;c/b"), []byte("-c;c"), 3, []byte("L\x02\x02b\x44\x04"+id('x')+"\x02"))
	f.Fuzz(func(t *testing.T, first, then []byte, at int, other []byte) {
		if len(first) > 3000 || len(then) > 3000 {
			return
		}
		s := newShelf()
		root := tree.Empty().Id
		for _, x := range scriptOf(first) { // those that can be done
			if next := wantEdit(t, "one", s, root, x); next != "" {
				root = next
			}
		}
		edits := scriptOf(then)
		next := wantEdit(t, "whole", s, root, edits...)
		if next != "" {
			wantDiff(t, "whole", s, root, next)
		}
		wantRead(t, "whole", s, root, "", edits[0].Path, dirOf(edits[0].Path))
		ids := slices.Sorted(maps.Keys(s.has))
		s.has[ids[int(uint(at)%uint(len(ids)))]] = string(other)
		wantRead(t, "broken", s, root, "", edits[0].Path, dirOf(edits[0].Path))
		wantEdit(t, "broken", s, root, edits...)
		if next != "" {
			wantDiff(t, "broken", s, root, next)
		}
	})
}
