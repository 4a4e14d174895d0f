package diff_test

import (
	"maps"
	"math/rand"
	"slices"
	"testing"

	"tussock/api"
	"tussock/diff"
	"tussock/prolly"
)

// edit does puts to a map; its objects come to the shelf.
func (s *shelf) edit(t *testing.T, root string, puts ...api.Put) string {
	t.Helper()
	now, objs, e := prolly.Edit(s.look, root, puts...)
	if e != api.OK {
		t.Fatalf("Edit: %d", e)
	}
	s.lay(objs...)
	return now
}

// changes are those between two maps that are here whole.
func (s *shelf) changes(t *testing.T, a, b string) []api.Change {
	t.Helper()
	l, e := diff.Maps(s.look, a, b)
	if e != api.OK {
		t.Fatalf("Maps: %d", e)
	}
	return l
}

// P14.4: the puts of the changes from a to b make b of a, and those from b to a make a of b; done twice they change nothing more.
func TestPutsMakeTheOther(t *testing.T) {
	for seed := range int64(300) {
		r := draw{rand.New(rand.NewSource(seed))}
		s := newShelf()
		was := r.pairs(r.Intn(1 + r.Intn(500)))
		a, b := s.build(was...), s.build(r.edited(was)...)
		there, back := diff.Puts(s.changes(t, a, b)...), diff.Puts(s.changes(t, b, a)...)
		if s.edit(t, a, there...) != b || s.edit(t, b, back...) != a || s.edit(t, b, there...) != b {
			t.Fatalf("the seed %d: puts do not make the other map", seed)
		}
		if s.edit(t, a, append(slices.Clone(there), back...)...) != a {
			t.Fatalf("the seed %d: there and back is not where it began", seed)
		}
	}
}

// P14.4: the changes from b to a are those from a to b, turned round; of a map and itself there are none.
func TestTurnedRound(t *testing.T) {
	for seed := range int64(300) {
		r := draw{rand.New(rand.NewSource(seed))}
		s := newShelf()
		a, b := s.build(r.pairs(r.Intn(100))...), s.build(r.pairs(r.Intn(100))...)
		if !slices.Equal(s.changes(t, b, a), turnedRound(s.changes(t, a, b))) {
			t.Fatalf("the seed %d: the changes are not each other turned round", seed)
		}
		if l := s.changes(t, a, a); len(l) != 0 {
			t.Fatalf("the seed %d: of a map and itself %s", seed, told(l))
		}
		if (len(s.changes(t, a, b)) == 0) != (a == b) {
			t.Fatalf("the seed %d: no changes, and not one map", seed)
		}
	}
}

// P14.4: the changes from a to b and those from b to c make c of a.
func TestChangesBehindChanges(t *testing.T) {
	for seed := range int64(200) {
		r := draw{rand.New(rand.NewSource(seed))}
		s := newShelf()
		one := r.pairs(r.Intn(200))
		two := r.edited(one)
		a, b, c := s.build(one...), s.build(two...), s.build(r.edited(two)...)
		puts := append(diff.Puts(s.changes(t, a, b)...), diff.Puts(s.changes(t, b, c)...)...)
		if s.edit(t, a, puts...) != c {
			t.Fatalf("the seed %d: they do not", seed)
		}
	}
}

// P14.1 to P14.4: two maps, and one of their objects that is other bytes.
func FuzzAsTheModel(f *testing.F) {
	f.Add([]byte("a1b2c3d4e5"), []byte("a1b5d4"), 0, []byte("L\x02\x02a\x021"))
	f.Add([]byte("some keys and values"), []byte("some keys and others"), 3, []byte("B\x02\x02\x02k"+id('k')+"\x02"))
	f.Add([]byte{}, []byte("z"), 1, []byte("L\x00"))
	f.Fuzz(func(t *testing.T, one, two []byte, at int, other []byte) {
		if len(one) > 8000 || len(two) > 8000 {
			return
		}
		s := newShelf()
		var roots []string
		for _, b := range [][]byte{one, two} {
			byKey := map[string]string{}
			for piece := range slices.Chunk(b, 4) {
				byKey[string(piece[:(len(piece)+1)/2])] = string(piece[(len(piece)+1)/2:])
			}
			pairs := sorted(byKey)
			roots = append(roots, s.build(pairs...))
			for _, size := range []int{1, 3} { // a map of another shape, if it can be
				if leaves := s.inLeavesOf(size, pairs); len(leaves) > 0 && len(leaves) <= 64 {
					roots = append(roots, s.branch(1, leaves...).Id)
				}
			}
		}
		for _, a := range roots {
			for _, b := range roots {
				wantMaps(t, "whole", s, a, b)
			}
		}
		ids := slices.Sorted(maps.Keys(s.has))
		s.has[ids[int(uint(at)%uint(len(ids)))]] = string(other)
		for _, a := range roots {
			for _, b := range roots {
				wantEnds(t, "broken", s, a, b)
			}
		}
	})
}
