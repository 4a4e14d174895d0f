package prolly_test

import (
	"fmt"
	"maps"
	"slices"
	"testing"

	"tussock/api"
	"tussock/prolly"
)

// notNodes are bytes that are no leaf's and no branch's.
func notNodes() map[string]string {
	pair := "\x02k\x02v"
	link := "\x02k" + id('i') + "\x02"
	return map[string]string{
		"no bytes": "", "a chunk": "Cabc", "a chunk without data": "C", "a fan": "F\x02\x02" + id('k') + "\x02", "a commit": "K" + id('t') + "\x00\x00\x00\x00",
		"an unknown mark": "X\x02" + pair, "a small mark": "l\x02" + pair, "a leaf's mark": "L", "a branch's mark": "B",
		"a leaf with a byte more": "L\x02" + pair + "\x00", "a leaf with a byte less": "L\x02\x02k\x02", "a leaf of too few pairs": "L\x04" + pair, "a leaf of a key twice": "L\x04" + pair + pair,
		"a leaf of 65 pairs": plainLeaf(numbered(65)), "a leaf of no key": "L\x02\x00\x02v", "a leaf of a long key": plainLeaf(pairsOf(repeated('k', 65))), "a leaf of a long value": plainLeaf([]api.Pair{{Key: "k", Val: repeated('v', 129)}}),
		"a leaf of falling keys": plainLeaf(letters("ba")), "a leaf of -1 pairs": "L\x01", "a count of two bytes": "L\x82\x00" + pair,
		"a branch without kids": "B\x02\x00", "a branch of Level 0": "B\x00\x02" + link, "a branch of Level -1": "B\x01\x02" + link, "a branch of Level 21": "B\x2a\x02" + link,
		"a branch with a byte more": "B\x02\x02" + link + "\x00", "a branch with a byte less": "B\x02\x02\x02k" + id('i'), "a branch of a kid twice": "B\x02\x04" + link + link,
		"a branch of 65 kids": plainBranch(api.Branch{Level: 1, Kids: manyLinks(65)}), "a branch of a Many of 0": "B\x02\x02\x02k" + id('i') + "\x00", "a branch of a Many of 4097": plainBranch(api.Branch{Level: 1, Kids: []api.Link{{Last: "k", Id: id('i'), Many: 4097}}}),
		"a branch of Manys that come to 4097": plainBranch(api.Branch{Level: 1, Kids: []api.Link{{Last: "k", Id: id('i'), Many: 4096}, {Last: "l", Id: id('i'), Many: 1}}}),
		"a branch of no Last":                 "B\x02\x02\x00" + id('i') + "\x02", "a branch of a long Last": plainBranch(api.Branch{Level: 1, Kids: []api.Link{{Last: repeated('k', 65), Id: id('i'), Many: 1}}}),
	}
}

func manyLinks(n int) []api.Link {
	var out []api.Link
	for i := range n {
		out = append(out, api.Link{Last: fmt.Sprintf("%03d", i), Id: id('i'), Many: 1})
	}
	return out
}

// askAll asks each call for what the model says.
func askAll(t *testing.T, what string, s *shelf, root string, keys ...string) {
	t.Helper()
	wantMany(t, what, s, root)
	wantListed(t, what, s, root, "", "")
	wantGone(t, what, s, root, "")
	for i, k := range keys {
		wantFound(t, what, s, root, k)
		wantListed(t, what, s, root, k, "")
		wantListed(t, what, s, root, "", k)
		wantListed(t, what, s, root, k, keys[len(keys)-1-i])
		wantGone(t, what, s, root, k)
	}
	wantEdited(t, what, s, root)
	wantEdited(t, what, s, root, append(gone("b"), putsOf(letters("ac")...)...)...)
}

// P12.2 to P12.4: a root that is no node's bytes is told by each call.
func TestRootsThatAreNoNodes(t *testing.T) {
	for what, b := range notNodes() {
		s := shelfOf()
		s.has[id('r')] = b
		wantRootError(t, what, s, api.ErrProllyCorrupt)
	}
	wantRootError(t, "a missing root", shelfOf(), api.ErrMissing)
	for _, e := range errorsOfGet {
		s := shelfOf()
		s.has[id('r')], s.errs[id('r')] = "L\x00", e
		wantRootError(t, "an error of get", s, e)
	}
}

// wantRootError asks each call for an error, with the root asked for and nothing else.
func wantRootError(t *testing.T, what string, s *shelf, want api.Errno) {
	t.Helper()
	root := id('r')
	s.steps = nil
	if val, ok, e := prolly.Find(s.get, root, "k"); val != "" || ok || e != want {
		t.Errorf("%s: Find: %q %t %d; want %d", what, val, ok, e, want)
	}
	if n, e := prolly.Many(s.get, root); n != 0 || e != want {
		t.Errorf("%s: Many: %d %d; want %d", what, n, e, want)
	}
	for _, x := range [][2]string{{"", ""}, {"z", ""}, {"z", "a"}, {"a", "z"}} {
		if l, e := prolly.List(s.get, root, x[0], x[1]); len(l) != 0 || e != want {
			t.Errorf("%s: List: %v %d; want %d", what, l, e, want)
		}
	}
	now, objs, e := prolly.Edit(s.get, root, api.Put{Key: "k", Val: "v"})
	wantNoMap(t, what+": Edit", now, objs, e, want)
	wantAsked(t, what, s, slices.Repeat([]string{root}, 7)...)
	wantSteps(t, what, s, root, "", -1, []step{{asked: root}, {e: want}})
	wantSteps(t, what, s, root, "z", -1, []step{{asked: root}, {e: want}})
}

// P12.2 to P12.4: each node of a map in turn is no node's bytes.
func TestNodesThatAreNone(t *testing.T) {
	x := newSmall()
	for node, was := range maps.Clone(x.has) {
		for what, b := range notNodes() {
			x.has[node] = b
			wantListError(t, what, x.shelf, x.root.Id, "", "", api.ErrProllyCorrupt)
			askAll(t, what, x.shelf, x.root.Id, "b", "e", "k", "r")
		}
		x.has[node] = was
	}
}

// keyAhead is the letter ahead of one.
func keyAhead(key string) string { return string([]byte{key[0] - 1}) }

// leafChanges make of a leaf's pairs others that a link to it does not fit.
func leafChanges() map[string]func([]api.Pair) []api.Pair {
	return map[string]func([]api.Pair) []api.Pair{
		"no pairs":                func(l []api.Pair) []api.Pair { return nil },
		"the first one less":      func(l []api.Pair) []api.Pair { return l[1:] },
		"the last one less":       func(l []api.Pair) []api.Pair { return l[:len(l)-1] },
		"one more ahead":          func(l []api.Pair) []api.Pair { return append(letters("0"), l...) },
		"one more behind":         func(l []api.Pair) []api.Pair { return append(l, letters("x")...) },
		"another last key":        func(l []api.Pair) []api.Pair { l[len(l)-1].Key += "\x00"; return l },
		"a last key that is less": func(l []api.Pair) []api.Pair { l[len(l)-1].Key = keyAhead(l[len(l)-1].Key); return l },
		"one more, the last less": func(l []api.Pair) []api.Pair { return append(letters("0"), l[:len(l)-1]...) },
	}
}

// P12.2 to P12.4: leaves that have another last key, or not as many pairs, as their links say.
func TestLeavesUnlikeTheirLinks(t *testing.T) {
	x := newSmall()
	for _, link := range []api.Link{x.bd, x.fh, x.k, x.mpr} {
		was := x.has[link.Id]
		for what, change := range leafChanges() {
			n, _ := takePlainLeaf(was)
			x.has[link.Id] = plainLeaf(change(n.pairs))
			wantListError(t, what, x.shelf, x.root.Id, "", "", api.ErrProllyCorrupt)
			if val, ok, e := prolly.Find(x.get, x.root.Id, link.Last); val != "" || ok || e != api.ErrProllyCorrupt {
				t.Errorf("%s: Find: %q %t %d", what, val, ok, e)
			}
			askAll(t, what, x.shelf, x.root.Id, "b", "d", "f", "h", "k", "n", "r")
		}
		n, _ := takePlainLeaf(was)
		n.pairs[0].Val = "another one"
		x.has[link.Id] = plainLeaf(n.pairs)
		if l, e := prolly.List(x.get, x.root.Id, "", ""); len(l) != 8 || e != api.OK {
			t.Errorf("another value: %d pairs, %d: the link says nothing of it", len(l), e)
		}
		askAll(t, "another value", x.shelf, x.root.Id, link.Last)
		x.has[link.Id] = was
	}
}

// branchChanges make of a branch another one, which its own link does not fit, or which its kids do not fit.
func branchChanges() map[string]func(*api.Branch) {
	last := func(b *api.Branch) *api.Link { return &b.Kids[len(b.Kids)-1] }
	return map[string]func(*api.Branch){
		"a Level more":               func(b *api.Branch) { b.Level++ },
		"Level 20":                   func(b *api.Branch) { b.Level = 20 },
		"a Level less":               func(b *api.Branch) { b.Level-- },
		"another last key":           func(b *api.Branch) { last(b).Last += "\x00" },
		"another first kid's Last":   func(b *api.Branch) { b.Kids[0].Last += "\x00" },
		"a first kid's Last less":    func(b *api.Branch) { b.Kids[0].Last = "a" },
		"a Many more":                func(b *api.Branch) { b.Kids[0].Many++ },
		"a last Many more":           func(b *api.Branch) { last(b).Many++ },
		"a pair from kid to kid":     func(b *api.Branch) { b.Kids[0].Many++; last(b).Many-- },
		"a kid less ahead":           func(b *api.Branch) { b.Kids = b.Kids[1:] },
		"a kid less behind":          func(b *api.Branch) { b.Kids = b.Kids[:len(b.Kids)-1] },
		"a kid less, as many pairs":  func(b *api.Branch) { last(b).Many += b.Kids[0].Many; b.Kids = b.Kids[1:] },
		"a kid more ahead":           func(b *api.Branch) { b.Kids = append([]api.Link{{Last: "0", Id: id('x'), Many: 1}}, b.Kids...) },
		"a kid more behind":          func(b *api.Branch) { b.Kids = append(b.Kids, api.Link{Last: "x", Id: id('x'), Many: 1}) },
		"kids in each other's place": func(b *api.Branch) { b.Kids[0].Id, last(b).Id = last(b).Id, b.Kids[0].Id },
		"a kid that is missing":      func(b *api.Branch) { b.Kids[0].Id = id('x') },
		"a last kid that is missing": func(b *api.Branch) { last(b).Id = id('x') },
		"the first kid's Id twice":   func(b *api.Branch) { last(b).Id = b.Kids[0].Id },
	}
}

// P12.2 to P12.4: branches that are unlike their links, and whose Lasts, Manys and kids do not agree.
func TestBranchesUnlikeTheirLinksOrKids(t *testing.T) {
	x := newSmall()
	for _, link := range []api.Link{x.root, x.left, x.right} {
		was := x.has[link.Id]
		for what, change := range branchChanges() {
			n, _ := takePlainBranch(was)
			change(&n.Branch)
			x.has[link.Id] = plainBranch(n.Branch)
			askAll(t, what, x.shelf, x.root.Id, "a", "b", "d", "f", "h", "i", "k", "l", "n", "r", "x")
			stillAMap := link == x.root && (what == "a kid less ahead" || what == "a kid less behind")
			if _, e := prolly.List(x.get, x.root.Id, "", ""); (e == api.OK) != stillAMap {
				t.Errorf("%s: %d", what, e)
			}
		}
		x.has[link.Id] = was
	}
}

// P12.2: kids of a branch of Level 1 are leaves, of a higher one branches of the Level one below; a root may be of any level.
func TestLevelsOfKids(t *testing.T) {
	s := shelfOf()
	byLevel := []api.Link{s.layLeaf(letters("bd")...)}
	for level := 1; level <= 20; level++ {
		byLevel = append(byLevel, s.layBranch(level, byLevel[level-1]))
	}
	for _, root := range byLevel {
		askAll(t, "a tall map", s, root.Id, "a", "b", "c", "d", "e")
		if l, e := prolly.List(s.get, root.Id, "", ""); !slices.Equal(l, letters("bd")) || e != api.OK {
			t.Errorf("%v %d", l, e)
		}
	}
	ahead := s.layLeaf(letters("a")...)
	for level := 1; level <= 20; level++ {
		for below, kid := range byLevel {
			if below == level-1 {
				continue
			}
			root := s.layBranch(level, kid)
			wantListError(t, "a kid of another level", s, root.Id, "", "", api.ErrProllyCorrupt)
			wantAsked(t, "a kid of another level", s, root.Id, kid.Id)
			two := s.layBranch(level, ahead, kid)
			askAll(t, "a second kid of another level", s, two.Id, "a", "b", "d", "e")
		}
		ahead = s.layBranch(level, ahead)
	}
}

// P12.2: a branch that names itself is told by its level.
func TestBranchesThatNameThemselves(t *testing.T) {
	s := shelfOf()
	me := id('m')
	for level := 1; level <= 20; level++ {
		s.has[me] = plainBranch(api.Branch{Level: level, Kids: []api.Link{{Last: "k", Id: me, Many: 5}}})
		wantListError(t, "a circle", s, me, "", "", api.ErrProllyCorrupt)
		wantAsked(t, "a circle", s, me, me)
		askAll(t, "a circle", s, me, "a", "k", "z")
	}
}

// P12.2: the first error ends it, in the order in which one goes: not the one that stands higher.
func TestFirstErrorEndsIt(t *testing.T) {
	x := newSmall()
	x.errs[x.right.Id], x.errs[x.fh.Id] = 70, 71
	wantListError(t, "two errors", x.shelf, x.root.Id, "", "", 71)
	wantAsked(t, "two errors", x.shelf, idsOf(x.root, x.left, x.bd, x.fh)...)
	x.has[x.bd.Id] = ""
	wantListError(t, "three errors", x.shelf, x.root.Id, "", "", api.ErrProllyCorrupt)
	wantAsked(t, "three errors", x.shelf, idsOf(x.root, x.left, x.bd)...)
	wantListError(t, "two errors", x.shelf, x.root.Id, "e", "", 71)
	wantListError(t, "one error", x.shelf, x.root.Id, "i", "", 70)
	x.errs[x.left.Id] = 72
	wantListError(t, "a branch's error", x.shelf, x.root.Id, "", "", 72)
	wantAsked(t, "a branch's error", x.shelf, idsOf(x.root, x.left)...)
	askAll(t, "errors", x.shelf, x.root.Id, "a", "d", "f", "k", "z")
}

// P12.2: bytes beside an error are none, whatever they say.
func TestBytesBesideAnError(t *testing.T) {
	x := newSmall()
	get := func(id string) (string, api.Errno) {
		b, _ := x.get(id)
		if id == x.fh.Id {
			return b, api.ErrMissing
		}
		return b, api.OK
	}
	if l, e := prolly.List(get, x.root.Id, "", ""); len(l) != 0 || e != api.ErrMissing {
		t.Errorf("List: %d, %v", e, l)
	}
	wantAsked(t, "an error with bytes", x.shelf, idsOf(x.root, x.left, x.bd, x.fh)...)
	if val, ok, e := prolly.Find(get, x.root.Id, "f"); val != "" || ok || e != api.ErrMissing {
		t.Errorf("Find: %q %t %d", val, ok, e)
	}
}

// R1: maps that are as wide and as tall as they may be end, too: 4096 leaves, each below a tower of its own.
func TestWidestMap(t *testing.T) {
	s := shelfOf()
	pairs := numbered(4096)
	var nodes []api.Link
	for _, p := range pairs {
		nodes = append(nodes, s.layLeaf(p))
	}
	for level := 1; level <= 18; level++ {
		for i, l := range nodes {
			nodes[i] = s.layBranch(level, l)
		}
	}
	for level := 19; level <= 20; level++ {
		var above []api.Link
		for g := range slices.Chunk(nodes, 64) {
			above = append(above, s.layBranch(level, g...))
		}
		nodes = above
	}
	root := nodes[0].Id
	if l, e := prolly.List(s.get, root, "", ""); !slices.Equal(l, pairs) || e != api.OK || len(nodes) != 1 {
		t.Errorf("%d pairs, %d", len(l), e)
	}
	wantFound(t, "the widest map", s, root, pairs[4000].Key)
	wantListed(t, "the widest map", s, root, pairs[1000].Key, pairs[1100].Key)
	wantEdited(t, "the widest map", s, root)
	wantEdited(t, "the widest map", s, root, putsOf(letters("z")...)...)
}
