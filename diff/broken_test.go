package diff_test

import (
	"maps"
	"math/rand"
	"slices"
	"testing"

	"tussock/api"
	"tussock/diff"
	"tussock/object"
)

// two are a map and another one of its making: a branch of Level 2 over two of Level 1, over leaves of two pairs each. They share a branch of Level 1 and, below the other one, a leaf.
type two struct {
	*shelf
	a, b                             api.Link
	shared, sharedLeaf, leafOfShared api.Link
	left, leaf, otherLeft, otherLeaf api.Link
}

func newTwo() two {
	s := newShelf()
	x := two{shelf: s, sharedLeaf: s.letters("bd"), leafOfShared: s.letters("km"), leaf: s.letters("fh")}
	x.otherLeaf = s.leaf(api.Pair{Key: "f", Val: "another one"}, api.Pair{Key: "h", Val: "too"})
	x.shared = s.branch(1, x.leafOfShared, s.letters("pr"))
	x.left, x.otherLeft = s.branch(1, x.sharedLeaf, x.leaf), s.branch(1, x.sharedLeaf, x.otherLeaf)
	x.a, x.b = s.branch(2, x.left, x.shared), s.branch(2, x.otherLeft, x.shared)
	return x
}

// alone are the nodes that are asked for: the roots, and what one of the maps has alone.
func (x two) alone() []api.Link {
	return []api.Link{x.a, x.b, x.left, x.otherLeft, x.leaf, x.otherLeaf}
}

// changes are those from the first to the second one.
func (x two) changes() []api.Change {
	return []api.Change{{Key: "f", Was: "value of f", Now: "another one", Had: true, Has: true}, {Key: "h", Was: "value of h", Now: "too", Had: true, Has: true}}
}

// wantNothingOfShared asks that, whatever is shared is, the changes are the same.
func (x two) wantNothingOfShared(t *testing.T, what string) {
	t.Helper()
	wantOneWay(t, what, x.shelf, x.a.Id, x.b.Id, x.changes())
	wantOneWay(t, what, x.shelf, x.b.Id, x.a.Id, turnedRound(x.changes()))
}

// notNodes are bytes that are no leaf's and no branch's.
func notNodes() map[string]string {
	pair := "\x02k\x02v"
	link := "\x02k" + id('i') + "\x02"
	return map[string]string{
		"no bytes": "", "a chunk": "Cabc", "a chunk without data": "C", "a fan": "F\x02\x02" + id('k') + "\x02", "a commit": "K" + id('t') + "\x00\x00\x00\x00",
		"an unknown mark": "X\x02" + pair, "a leaf's mark": "L", "a branch's mark": "B",
		"a leaf with a byte more": "L\x02" + pair + "\x00", "a leaf with a byte less": "L\x02\x02k\x02", "a leaf of a key twice": "L\x04" + pair + pair, "a leaf of falling keys": "L\x04\x02l\x02v" + pair,
		"a leaf of no key": "L\x02\x00\x02v", "a leaf of -1 pairs": "L\x01", "a leaf of 65 pairs": "L\x82\x01", "a count of two bytes": "L\x82\x00" + pair,
		"a branch without kids": "B\x02\x00", "a branch of Level 0": "B\x00\x02" + link, "a branch of Level -1": "B\x01\x02" + link, "a branch of Level 21": "B\x2a\x02" + link,
		"a branch with a byte more": "B\x02\x02" + link + "\x00", "a branch with a byte less": "B\x02\x02\x02k" + id('i'), "a branch of a kid twice": "B\x02\x04" + link + link,
		"a branch of a Many of 0": "B\x02\x02\x02k" + id('i') + "\x00", "a branch of no Last": "B\x02\x02\x00" + id('i') + "\x02",
	}
}

// P14.2: bytes that are no node's, at each place: told of what is gone to, and not looked at where both maps have it.
func TestNodesThatAreNone(t *testing.T) {
	x := newTwo()
	x.wantNothingOfShared(t, "whole")
	for what, b := range notNodes() {
		for _, link := range x.alone() {
			was := x.has[link.Id]
			x.has[link.Id] = b
			wantError(t, what, x.shelf, x.a.Id, x.b.Id, api.ErrProllyCorrupt)
			x.has[link.Id] = was
		}
		for _, link := range []api.Link{x.shared, x.sharedLeaf, x.leafOfShared} {
			was := x.has[link.Id]
			x.has[link.Id] = b
			x.wantNothingOfShared(t, what)
			x.has[link.Id] = was
		}
	}
}

// P14.2: an object that is missing, or another error of get's, at each place.
func TestErrorsOfGet(t *testing.T) {
	for _, e := range errorsOfGet {
		x := newTwo()
		for _, link := range x.alone() {
			x.errs[link.Id] = e
			wantError(t, "an error", x.shelf, x.a.Id, x.b.Id, e)
			delete(x.errs, link.Id)
		}
		for _, link := range []api.Link{x.shared, x.sharedLeaf, x.leafOfShared} {
			x.errs[link.Id] = e
		}
		x.wantNothingOfShared(t, "errors of what is shared")
	}
	x := newTwo()
	for _, link := range x.alone() {
		was := x.has[link.Id]
		delete(x.has, link.Id)
		wantError(t, "missing", x.shelf, x.a.Id, x.b.Id, api.ErrMissing)
		x.has[link.Id] = was
	}
	for _, link := range []api.Link{x.shared, x.sharedLeaf, x.leafOfShared} {
		delete(x.has, link.Id)
	}
	x.wantNothingOfShared(t, "what is shared is missing")
}

// P14.2: of a great map, an object missing at each place; several errors: one of those that get answered.
func TestMissingAtEachPlace(t *testing.T) {
	s := newShelf()
	pairs := numbered(400)
	now := with(without(with(pairs, pairs[50].Key, "another one"), 200), pairs[399].Key+"!", "new")
	a, b := s.build(pairs...), s.build(now...)
	ofA, ofB := s.nodes(a), s.nodes(b)
	for id, was := range maps.Clone(s.has) {
		delete(s.has, id)
		if id == a || id == b || ofA[id] != ofB[id] {
			wantError(t, "missing", s, a, b, api.ErrMissing)
		} else {
			wantOneWay(t, "missing, but shared", s, a, b, plainChanges(pairs, now))
		}
		s.has[id] = was
	}
	s.errs[a], s.errs[b] = 70, 71
	wantEnds(t, "two errors", s, a, b)
	delete(s.errs, a)
	wantError(t, "one root's error", s, a, b, 71)
}

// P14.2: roots of which one is a map's and the other one nobody's.
func TestRootsThatAreNoMaps(t *testing.T) {
	s := newShelf()
	roots := []string{s.build(), s.build(letters("abc")...), s.build(numbered(500)...)}
	for _, root := range roots {
		wantError(t, "a missing root", s, root, id('m'), api.ErrMissing)
		wantError(t, "a missing root that is no id", s, root, "", api.ErrMissing)
		for what, b := range notNodes() {
			s.has["root"] = b
			wantError(t, what, s, root, "root", api.ErrProllyCorrupt)
		}
	}
	wantError(t, "two missing roots", s, id('m'), id('n'), api.ErrMissing)
}

// P14.2: bytes beside an error are none, whatever they say.
func TestBytesBesideAnError(t *testing.T) {
	x := newTwo()
	for _, link := range x.alone() {
		get := func(id string) (string, api.Errno) {
			b, _ := x.look(id)
			if id == link.Id {
				return b, 77
			}
			return b, api.OK
		}
		if l, e := diff.Maps(get, x.a.Id, x.b.Id); e != 77 || len(l) != 0 {
			t.Errorf("%d, %v; want 77 alone", e, l)
		}
	}
}

// P14.2: the first error ends it: get is asked for nothing more.
func TestFirstErrorEndsIt(t *testing.T) {
	x := newTwo()
	for _, link := range x.alone() {
		for _, b := range []string{"no node", ""} {
			was := x.has[link.Id]
			x.has[link.Id] = b
			x.asked = nil
			_, e := diff.Maps(x.get, x.a.Id, x.b.Id)
			if e != api.ErrProllyCorrupt || x.asked[len(x.asked)-1] != link.Id {
				t.Errorf("%d, asked for %d nodes, and not for the broken one last", e, len(x.asked))
			}
			x.has[link.Id] = was
		}
	}
}

// P14.2: links whose Last, Many or Level is not that of what they name, at each level.
func TestLinksUnlikeTheirNodes(t *testing.T) {
	bends := map[string]func(*api.Link){
		"a Last behind":      func(l *api.Link) { l.Last += "\x00" },
		"a Last ahead":       func(l *api.Link) { l.Last = "0" },
		"a Many more":        func(l *api.Link) { l.Many++ },
		"a Many less":        func(l *api.Link) { l.Many-- },
		"a Many of too many": func(l *api.Link) { l.Many = 4096 },
		"an Id of another":   func(l *api.Link) { l.Id = id('o') },
	}
	for from := range 19 {
		for what, bend := range bends {
			s := newShelf()
			good := s.tower(s.letters("bd"), 1, from)
			s.has[id('o')] = s.has[s.tower(s.letters("bdx"), 1, from).Id]
			bad := good
			bend(&bad)
			root := s.branch(from+1, bad)
			wantError(t, what, s, root.Id, s.letters("z").Id, api.ErrProllyCorrupt)
			wantError(t, what+", below others", s, s.branch(from+2, root).Id, s.letters("z").Id, api.ErrProllyCorrupt)
			wantError(t, what+", against the right one", s, root.Id, s.branch(from+1, good).Id, api.ErrProllyCorrupt)
			if bad.Id == good.Id { // it is not gone to, but two things are said of it
				wantError(t, what+", against what it names", s, root.Id, good.Id, api.ErrProllyCorrupt)
			}
		}
	}
}

// P14.2: kids of a branch of Level 1 are leaves, of a higher one branches of the Level one below.
func TestLevelsOfKids(t *testing.T) {
	s := newShelf()
	byLevel := []api.Link{s.letters("bd")}
	for level := 1; level <= 20; level++ {
		byLevel = append(byLevel, s.branch(level, byLevel[level-1]))
	}
	for level := 1; level <= 20; level++ {
		for below, kid := range byLevel {
			if below == level-1 {
				continue
			}
			root := s.branch(level, kid)
			wantError(t, "a kid of another level", s, root.Id, s.letters("z").Id, api.ErrProllyCorrupt)
			for _, other := range byLevel { // some of them have the kid, at its own level
				wantError(t, "a kid of another level, and shared", s, root.Id, other.Id, api.ErrProllyCorrupt)
			}
		}
	}
}

// P14.2: leaves whose pairs do not rise from leaf to leaf, though their links do.
func TestKeysThatDoNotRise(t *testing.T) {
	for _, x := range [][2]string{{"bd", "ae"}, {"bd", "bde"}, {"bd", "de"}, {"bd", "ce"}, {"b", "bd"}, {"bdf", "cg"}} {
		s := newShelf()
		one, two := s.letters(x[0]), s.letters(x[1])
		for _, root := range []api.Link{s.branch(1, one, two), s.branch(2, s.branch(1, one), s.branch(1, two)), s.branch(1, s.letters("0"), one, two, s.letters("z"))} {
			wantError(t, "keys that do not rise", s, root.Id, s.leaf().Id, api.ErrProllyCorrupt)
			wantError(t, "keys that do not rise", s, root.Id, s.build(numbered(100)...), api.ErrProllyCorrupt)
			wantEnds(t, "keys that do not rise, of which some are shared", s, root.Id, one.Id)
			wantEnds(t, "keys that do not rise, of which some are shared", s, root.Id, s.branch(1, one, s.letters("y")).Id)
		}
	}
}

// P14.2: an id that stands twice in a map, or at two levels; a branch that names itself, or the other root.
func TestIdsOutOfPlace(t *testing.T) {
	s := newShelf()
	one := s.letters("bd")
	twice := s.branch(1, one, api.Link{Last: "x", Id: one.Id, Many: 2})
	same := s.branch(2, s.branch(1, s.letters("a"), one), s.branch(1, one, s.letters("z")))
	for _, root := range []api.Link{twice, same, s.tower(twice, 2, 5)} {
		wantError(t, "an id twice", s, root.Id, s.leaf().Id, api.ErrProllyCorrupt)
		wantError(t, "an id twice, and shared", s, root.Id, one.Id, api.ErrProllyCorrupt)
		wantError(t, "an id twice, and shared", s, root.Id, s.branch(1, one).Id, api.ErrProllyCorrupt)
	}
	for level := 1; level <= 20; level++ {
		me, you := id('m'), id('y')
		s.lay(api.Object{Id: me, Bytes: branchOf(level, api.Link{Last: "k", Id: me, Many: 5}).Bytes})
		wantError(t, "a circle", s, me, one.Id, api.ErrProllyCorrupt)
		for other := 1; other <= 20; other++ {
			s.lay(api.Object{Id: me, Bytes: branchOf(level, api.Link{Last: "k", Id: you, Many: 5}).Bytes})
			s.lay(api.Object{Id: you, Bytes: branchOf(other, api.Link{Last: "k", Id: me, Many: 5}).Bytes})
			wantError(t, "a circle of two", s, me, one.Id, api.ErrProllyCorrupt)
			wantEnds(t, "roots that name each other", s, me, you)
		}
	}
}

// R1: branches that name one kid many times end, too.
func TestManyNamesOfOne(t *testing.T) {
	s := newShelf()
	l := s.letters("b")
	for level := 1; level <= 20; level++ {
		var kids []api.Link
		for i := range 64 {
			if int64(i+1)*l.Many <= 4096 {
				kids = append(kids, api.Link{Last: numbered(64)[i].Key, Id: l.Id, Many: l.Many})
			}
		}
		l = s.branch(level, kids...)
		wantEnds(t, "many names of one", s, l.Id, s.letters("z").Id)
		wantEnds(t, "many names of one", s, l.Id, kids[0].Id)
	}
}

// R1: a get whose answers are never the same.
func TestGetThatChanges(t *testing.T) {
	x := newTwo()
	bytes := slices.Sorted(maps.Values(x.has))
	for seed := range int64(2000) {
		r := rand.New(rand.NewSource(seed))
		get := func(string) (string, api.Errno) { return bytes[r.Intn(len(bytes))], api.OK }
		l, e := diff.Maps(get, x.a.Id, x.b.Id)
		if e != api.OK && (e != api.ErrProllyCorrupt || len(l) != 0) {
			t.Errorf("%d, %v", e, l)
		}
		wantRightChanges(t, "a get that changes", l)
	}
}

// P14.2: objects of all kinds in each other's place.
func TestNodesInEachOthersPlace(t *testing.T) {
	x := newTwo()
	ids := slices.Sorted(maps.Keys(x.has))
	for _, one := range ids {
		for _, other := range ids {
			was := x.has[one]
			x.has[one] = x.has[other]
			wantEnds(t, "another one's bytes", x.shelf, x.a.Id, x.b.Id)
			x.has[one] = was
		}
	}
	chunk, _ := object.Chunk("abc")
	x.lay(chunk)
	wantError(t, "a branch over a chunk", x.shelf, x.branch(1, api.Link{Last: "k", Id: chunk.Id, Many: 1}).Id, x.a.Id, api.ErrProllyCorrupt)
}

// P14.2: drawn maps, of all shapes, broken by chance.
func TestDrawnBrokenMaps(t *testing.T) {
	for seed := range int64(4000) {
		r := draw{rand.New(rand.NewSource(seed))}
		s := newShelf()
		was := r.pairs(r.Intn(60))
		now := r.edited(was)
		roots := []string{s.build(was...), s.build(now...), r.tree(s, was), r.tree(s, now)}
		a, b := roots[r.Intn(4)], roots[r.Intn(4)]
		r.harm(s)
		wantEnds(t, "drawn and broken", s, a, b)
		if t.Failed() {
			t.Fatalf("the seed %d", seed)
		}
	}
}
