package diff_test

import (
	"crypto/sha256"
	"fmt"
	"math/rand"
	"slices"
	"strconv"
	"testing"

	"tussock/api"
	"tussock/diff"
)

// P14.1, P14.3: the chapter's examples.
func TestExamples(t *testing.T) {
	s := newShelf()
	a := s.build(api.Pair{Key: "a", Val: "1"}, api.Pair{Key: "b", Val: "2"}, api.Pair{Key: "c", Val: "3"})
	b := s.build(api.Pair{Key: "a", Val: "1"}, api.Pair{Key: "b", Val: "5"}, api.Pair{Key: "d", Val: "4"})
	want := []api.Change{{Key: "b", Was: "2", Now: "5", Had: true, Has: true}, {Key: "c", Was: "3", Had: true}, {Key: "d", Now: "4", Has: true}}
	l, e := diff.Maps(s.get, a, b)
	if e != api.OK || !slices.Equal(l, want) {
		t.Errorf("%d, %v; want %v", e, l, want)
	}
	puts := []api.Put{{Key: "b", Val: "5"}, {Key: "c", Gone: true}, {Key: "d", Val: "4"}}
	if got := diff.Puts(l...); !slices.Equal(got, puts) {
		t.Errorf("%v; want %v", got, puts)
	}
	if l, e := diff.Maps(newShelf().get, a, a); e != api.OK || len(l) != 0 {
		t.Errorf("the same root twice: %d, %v", e, l)
	}
	wantMaps(t, "the first example", s, a, b)
}

// R4: a nil get is told, whatever the roots are.
func TestNilGet(t *testing.T) {
	for _, x := range [][2]string{{id('a'), id('b')}, {"", "b"}, {"a", ""}, {"", ""}, {id('a'), id('a')}} {
		if l, e := diff.Maps(nil, x[0], x[1]); e != api.ErrNil || len(l) != 0 {
			t.Errorf("%q: %d, %v; want ErrNil alone", x, e, l)
		}
	}
}

// P14.1: of one root there is no change, and nothing is asked for, whatever get has, and whatever the root is.
func TestOneRoot(t *testing.T) {
	s := newShelf()
	great := s.build(numbered(1000)...)
	s.has[id('n')] = "no node"
	s.errs[id('e')] = 70
	for _, root := range []string{great, s.build(), id('n'), id('e'), id('m'), "", "a", "no id", repeated('x', 31), repeated('x', 33), repeated(0, 32), repeated('x', 1000)} {
		for _, get := range []*shelf{s, newShelf()} {
			get.asked = nil
			if l, e := diff.Maps(get.get, root, string([]byte(root))); e != api.OK || len(l) != 0 {
				t.Errorf("%q: %d, %v", root, e, l)
			}
			if len(get.asked) > 0 {
				t.Errorf("%q: get was asked %d times", root, len(get.asked))
			}
		}
	}
}

// P14.1: roots that are not one may still be of maps that have the same, and need not be ids: get says what they are.
func TestRootsThatAreNoIds(t *testing.T) {
	s := newShelf()
	roots := []string{"", "a", "no id", repeated('x', 31), repeated('x', 33), id('x')}
	great := s.has[s.build(numbered(1000)...)]
	for _, b := range []string{"L\x00", s.has[s.build(letters("abc")...)], great} {
		for _, root := range roots {
			s.has[root] = b
		}
		for _, x := range roots {
			wantMaps(t, "no ids", s, x, s.build(letters("bcd")...))
			for _, y := range roots {
				wantMaps(t, "no ids, the same bytes", s, x, y)
			}
		}
	}
}

// P14.1: maps without pairs, and one against maps with some.
func TestNoPairs(t *testing.T) {
	s := newShelf()
	none := s.build()
	s.has["none"], s.has[id('0')] = s.has[none], s.has[none]
	wantMaps(t, "no pairs", s, none, s.build())
	wantMaps(t, "no pairs under two ids", s, none, "none")
	wantMaps(t, "no pairs under two ids", s, id('0'), "none")
	for _, n := range sizesAtEdges {
		pairs := numbered(n)
		root := s.build(pairs...)
		wantMaps(t, "some pairs", s, none, root)
		l, e := diff.Maps(s.get, none, root)
		if e != api.OK || len(l) != n {
			t.Fatalf("%d, %d changes of %d", e, len(l), n)
		}
		for i, c := range l {
			if c != (api.Change{Key: pairs[i].Key, Now: pairs[i].Val, Has: true}) {
				t.Errorf("the change %d is %v", i, c)
			}
		}
	}
}

// P14.1: maps that have no key, or no value of a key, in common.
func TestNothingInCommon(t *testing.T) {
	s := newShelf()
	for _, n := range sizesAtEdges {
		var odd, even, others []api.Pair
		for i := range n {
			odd = append(odd, api.Pair{Key: fmt.Sprintf("%05d", 2*i), Val: "v"})
			even = append(even, api.Pair{Key: fmt.Sprintf("%05d", 2*i+1), Val: "v"})
			others = append(others, api.Pair{Key: fmt.Sprintf("%05d", 2*i), Val: "w"})
		}
		a := s.build(odd...)
		wantMaps(t, "keys between keys", s, a, s.build(even...))
		wantMaps(t, "other values", s, a, s.build(others...))
		wantMaps(t, "keys behind keys", s, a, s.build(numbered(n)...))
		wantMaps(t, "keys behind one key", s, s.build(letters("0")...), s.build(numbered(n)...))
	}
}

// P14.1: maps that differ in one pair, at each end and within: by its value, by a key more, by a key less.
func TestOnePair(t *testing.T) {
	for _, n := range sizesAtEdges {
		s := newShelf()
		pairs := numbered(n)
		root := s.build(pairs...)
		for _, at := range []int{0, 1, n / 3, n / 2, n - 2, n - 1} {
			if at < 0 || at >= n {
				continue
			}
			key := pairs[at].Key
			wantMaps(t, "another value", s, root, s.build(with(pairs, key, "another one")...))
			wantMaps(t, "no value", s, root, s.build(with(pairs, key, "")...))
			wantMaps(t, "a key less", s, root, s.build(without(pairs, at)...))
			wantMaps(t, "another key", s, root, s.build(with(without(pairs, at), key+"!", pairs[at].Val)...))
			if n < api.MaxPairs {
				wantMaps(t, "a key more", s, root, s.build(with(pairs, key+"!", "new")...))
				wantMaps(t, "a key more ahead", s, root, s.build(with(pairs, "a", "new")...))
				wantMaps(t, "a key more behind", s, root, s.build(with(pairs, "z", "new")...))
			}
		}
	}
}

// P14.1: of great maps that have most in common little is asked for.
func TestLittleIsAskedFor(t *testing.T) {
	s := newShelf()
	pairs := numbered(4000)
	a := s.build(pairs...)
	for i := 0; i < 4000; i += 97 {
		b := s.build(with(pairs, pairs[i].Key, "another one")...)
		s.asked = nil
		l, e := diff.Maps(s.get, a, b)
		if e != api.OK || len(l) != 1 || l[0].Key != pairs[i].Key {
			t.Errorf("%d, %v", e, l)
		}
		// Another value moves no end: of each map there is one node a level.
		if most := s.level(a) + 1 + s.level(b) + 1; len(s.asked) > most {
			t.Errorf("asked for %d nodes; want %d at most", len(s.asked), most)
		}
	}
}

// P14.1: maps of one leaf against maps of many levels.
func TestOneLeafAgainstManyLevels(t *testing.T) {
	for _, n := range []int{65, 500, 4096} {
		s := newShelf()
		pairs := numbered(n)
		root := s.build(pairs...)
		for _, few := range [][]api.Pair{nil, pairs[:1], pairs[:3], pairs[n/2 : n/2+2], pairs[n-1:], letters("a"), letters("z"), letters("alz"), with(pairs[:2], "k10000!", "x")} {
			one := s.leaf(few...)
			wantMaps(t, "one leaf", s, one.Id, root)
			if len(few) > 0 {
				wantMaps(t, "one leaf below a tower", s, s.tower(one, 1, 20).Id, root)
			}
		}
	}
}

// halving are n rising keys each of which is a leaf of its own: the second, the fourth and so on end nodes of level 1, the fourth, the eighth and so on those of level 2, and so on, so that there are many levels.
func halving(n int) []api.Pair {
	var keys []string
	for place := 1; place <= n; place++ {
		for i, found := 0, false; !found; i++ {
			key := fmt.Sprintf("%02d.%d", place, i)
			sum := sha256.Sum256([]byte(key))
			found = sum[31]%16 == 0
			for level := 1; place%(1<<level) == 0; level++ {
				found = found && sum[31-level]%16 == 0
			}
			if found {
				keys = append(keys, key)
			}
		}
	}
	return pairsOf(keys...)
}

// some are a few of a row, with its first and its last one.
func some(row []string) []string {
	var out []string
	for i := 0; i < len(row)-1; i += 1 + len(row)/7 {
		out = append(out, row[i])
	}
	return append(out, row[len(row)-1])
}

// P14.1: a root that is a node of the other map, of each level: with what is below it, it is no change, and but for itself nothing of it is asked for.
func TestRootWithinTheOther(t *testing.T) {
	for _, pairs := range [][]api.Pair{halving(31), numbered(2000)} {
		s := newShelf()
		root := s.build(pairs...)
		rows := s.byLevel(root)
		for depth, row := range rows {
			for _, node := range some(row) {
				wantMaps(t, "a root at the depth "+strconv.Itoa(depth), s, root, node)
			}
		}
		for _, node := range some(rows[1]) { // two nodes of one map, of which one may be within the other
			for _, other := range append(some(rows[1]), some(rows[2])...) {
				wantMaps(t, "two nodes of one map", s, node, other)
			}
		}
	}
}

// P14.1: a change at each place of a map of many levels.
func TestManyLevels(t *testing.T) {
	s := newShelf()
	pairs := halving(31)
	root := s.build(pairs...)
	if s.level(root) < 5 {
		t.Fatalf("%d levels", s.level(root))
	}
	for i, p := range pairs {
		changed := s.build(with(pairs, p.Key, "another one")...)
		wantMaps(t, "another value", s, root, changed)
		wantMaps(t, "a key more", s, root, s.build(with(pairs, p.Key+"!", "new")...))
		less := s.build(without(pairs, i)...)
		wantMaps(t, "a key less", s, root, less)
		wantMaps(t, "another value, a key less", s, changed, less)
		wantMaps(t, "those ahead", s, root, s.build(pairs[:i]...))
		wantMaps(t, "those behind", s, root, s.build(pairs[i:]...))
	}
}

// P14.1: the same, of a map as tall as may be.
func TestRootWithinATower(t *testing.T) {
	s := newShelf()
	x, y := s.tower(s.letters("abc"), 1, 3), s.tower(s.letters("x"), 1, 3)
	root := s.tower(s.branch(4, x, y), 5, 20)
	var all []string
	for _, row := range s.byLevel(root.Id) {
		all = append(all, row...)
	}
	if len(all) != 25 {
		t.Fatalf("%d nodes", len(all))
	}
	for _, a := range all {
		for _, b := range all {
			wantMaps(t, "two nodes of a tower", s, a, b)
		}
	}
}

// P14.1: what both maps have is not asked for, wherever it stands: at another place of its branch, below other branches, below other numbers of levels.
func TestSharedAtOtherPlaces(t *testing.T) {
	s := newShelf()
	bd, fh, k, mpr, z := s.letters("bd"), s.letters("fh"), s.letters("k"), s.letters("mpr"), s.letters("z")
	left, right := s.branch(1, bd, fh), s.branch(1, k, mpr)
	roots := []api.Link{
		s.branch(2, left, right),
		s.branch(2, s.branch(1, bd), s.branch(1, fh, k), s.branch(1, mpr, z)),
		s.branch(1, bd, fh, k, mpr, z), s.branch(1, bd, fh, k, mpr), s.branch(1, fh, mpr), s.branch(1, s.letters("ac"), k, mpr),
		s.branch(1, s.letters("bdf"), s.letters("hk"), mpr, z),
		s.branch(2, s.tower(s.letters("a"), 1, 1), right, s.tower(z, 1, 1)),
		s.tower(s.branch(3, s.tower(left, 2, 2), s.tower(s.letters("i"), 1, 2), s.tower(right, 2, 2)), 4, 9),
		s.tower(s.branch(2, s.branch(1, fh, k), s.branch(1, mpr)), 3, 20),
		s.branch(6, s.tower(bd, 1, 5), s.tower(mpr, 1, 5)), s.branch(5, s.tower(bd, 1, 4), s.tower(mpr, 1, 4)),
		bd, k, z, left, right, s.letters("bdfhkmpr"), s.leaf(),
	}
	for _, a := range roots {
		for _, b := range roots {
			wantMaps(t, "other places", s, a.Id, b.Id)
		}
	}
}

// endsLeaf are the first key behind a prefix that ends a leaf, and the first that does not.
func endsLeaf(s *shelf, prefix string) (string, string) {
	ends, not := "", ""
	for n := 0; ends == "" || not == ""; n++ {
		key := prefix + "." + strconv.Itoa(n)
		if s.level(s.build(append(pairsOf(key), letters("~")...)...)) > 0 {
			ends = key
		} else {
			not = key
		}
	}
	return ends, not
}

// P14.1: a key more or less where a leaf ends cuts leaves at other places: what is the same stands in nodes that are not.
func TestLeavesCutElsewhere(t *testing.T) {
	s := newShelf()
	var pairs []api.Pair
	for i := range 130 { // no leaf ends but by having 64 pairs
		_, not := endsLeaf(newShelf(), fmt.Sprintf("%03d", i))
		pairs = append(pairs, api.Pair{Key: not, Val: strconv.Itoa(i)})
	}
	root := s.build(pairs...)
	for _, i := range []int{0, 1, 62, 63, 64, 65, 100, 127, 128, 129} {
		ends, _ := endsLeaf(newShelf(), fmt.Sprintf("%03d", i))
		cut := s.build(with(pairs, ends, "cut")...)
		wantMaps(t, "cut by a key", s, root, cut)
		wantMaps(t, "a key less", s, root, s.build(without(pairs, i)...))
		wantMaps(t, "cut, and a key less", s, cut, s.build(without(pairs, i)...))
		wantMaps(t, "cut, and another value", s, cut, s.build(with(with(pairs, ends, "cut"), pairs[129].Key, "another")...))
	}
}

// inLeavesOf lays pairs in leaves of a size.
func (s *shelf) inLeavesOf(size int, pairs []api.Pair) []api.Link {
	var leaves []api.Link
	for g := range slices.Chunk(pairs, size) {
		leaves = append(leaves, s.leaf(g...))
	}
	return leaves
}

// P14.1: the shape is not what counts: maps of the same pairs in other nodes have no change.
func TestSamePairsInOtherShapes(t *testing.T) {
	s := newShelf()
	pairs := numbered(60)
	roots := []string{s.leaf(pairs...).Id, s.build(pairs...)}
	for _, size := range []int{1, 2, 7, 30, 59, 60} {
		leaves := s.inLeavesOf(size, pairs)
		half := (len(leaves) + 1) / 2
		flat := s.branch(1, leaves...)
		roots = append(roots, flat.Id, s.tower(flat, 2, 5).Id)
		if half < len(leaves) {
			roots = append(roots, s.branch(2, s.branch(1, leaves[:half]...), s.branch(1, leaves[half:]...)).Id)
		}
	}
	for _, a := range roots {
		for _, b := range roots {
			if l, e := diff.Maps(s.get, a, b); e != api.OK || len(l) != 0 {
				t.Errorf("%d, %v; want no change", e, l)
			}
			wantMaps(t, "other shapes", s, a, b)
		}
	}
}

// P14.1: values of no bytes are not the same as nothing; keys and values may be as long as may be.
func TestShortAndLong(t *testing.T) {
	s := newShelf()
	long := func(c byte, val string) api.Pair {
		return api.Pair{Key: repeated('k', 63) + string([]byte{c}), Val: val}
	}
	full, empty := repeated('v', 128), ""
	maps := [][]api.Pair{
		nil, {{Key: "\x00", Val: empty}}, {{Key: "\x00", Val: full}}, {{Key: "\x00", Val: repeated(0, 128)}}, {{Key: "\x00\x00", Val: empty}},
		{long(0, empty)}, {long(0, full)}, {long(255, empty)}, {long(255, full)}, {long(255, full[:127]+"w")}, {long(0, full), long(255, full)},
		{{Key: repeated(0, 63)}, {Key: repeated(0, 64)}}, {{Key: repeated(0, 63)}}, {{Key: repeated(0, 64)}}, {{Key: repeated(255, 64)}},
	}
	for _, a := range maps {
		for _, b := range maps {
			wantMaps(t, "short and long", s, s.build(a...), s.build(b...))
		}
	}
	l, e := diff.Maps(s.get, s.build(), s.build(api.Pair{Key: "k"}))
	if want := []api.Change{{Key: "k", Has: true}}; e != api.OK || !slices.Equal(l, want) {
		t.Errorf("%d, %v; want %v", e, l, want)
	}
	l, e = diff.Maps(s.get, s.build(api.Pair{Key: "k"}), s.build(api.Pair{Key: "k", Val: "v"}))
	if want := []api.Change{{Key: "k", Now: "v", Had: true, Has: true}}; e != api.OK || !slices.Equal(l, want) {
		t.Errorf("%d, %v; want %v", e, l, want)
	}
}

// P14.1: a map's keys are held against each other bytewise.
func TestKeysAreBytes(t *testing.T) {
	s := newShelf()
	var one, two []api.Pair
	for i := range 256 {
		one = append(one, api.Pair{Key: string([]byte{byte(i)}), Val: "1"})
		two = append(two, api.Pair{Key: string([]byte{byte(i), 0}), Val: "2"})
	}
	wantMaps(t, "bytes", s, s.build(one...), s.build(two...))
	wantMaps(t, "texts that begin others", s, s.build(pairsOf("a", "ab", "b")...), s.build(pairsOf("a", "abc", "ac", "é", "\xff")...))
}

// P14.1: whether an id is its bytes' sum is not asked: nodes of the same bytes under two ids are two nodes, and one id is one.
func TestIdsThatAreNoSums(t *testing.T) {
	s := newShelf()
	bd, fh, k := s.letters("bd"), s.letters("fh"), s.letters("k")
	other := func(l api.Link, c byte) api.Link {
		s.has[id(c)] = s.has[l.Id]
		l.Id = id(c)
		return l
	}
	roots := []api.Link{
		s.branch(1, bd, fh, k), s.branch(1, bd, other(fh, '1'), k), s.branch(1, other(bd, '2'), fh, k), s.branch(1, other(bd, '2'), other(fh, '1'), k),
		other(s.branch(1, bd, fh, k), '3'), s.branch(1, other(bd, '2'), fh, other(k, '4')), other(k, '4'), other(bd, '2'),
	}
	for _, a := range roots {
		for _, b := range roots {
			wantMaps(t, "no sums", s, a.Id, b.Id)
		}
	}
}

// R1: maps that are as wide and as tall as they may be: 4096 leaves, each below a tower of its own.
func TestWidestMaps(t *testing.T) {
	s := newShelf()
	widest := func(pairs []api.Pair) string {
		nodes := s.inLeavesOf(1, pairs)
		for i, l := range nodes {
			nodes[i] = s.tower(l, 1, 18)
		}
		for level := 19; level <= 20; level++ {
			var above []api.Link
			for g := range slices.Chunk(nodes, 64) {
				above = append(above, s.branch(level, g...))
			}
			nodes = above
		}
		return nodes[0].Id
	}
	pairs := numbered(4096)
	others := slices.Clone(pairs)
	for i := range others {
		others[i].Val = "another one"
	}
	a := widest(pairs)
	wantMaps(t, "nothing in common", s, a, widest(others))
	wantMaps(t, "one pair", s, a, widest(with(pairs, pairs[2000].Key, "another one")))
	wantMaps(t, "another shape", s, a, s.build(pairs...))
}

// P14.1: drawn maps, of which one is the other one with some changes.
func TestDrawnMaps(t *testing.T) {
	for seed := range int64(600) {
		r := draw{rand.New(rand.NewSource(seed))}
		s := newShelf()
		was := r.pairs(r.Intn(1 + r.Intn(400)))
		now := r.edited(was)
		wantMaps(t, "drawn", s, s.build(was...), s.build(now...))
		wantMaps(t, "drawn, of other shapes", s, r.tree(s, was), r.tree(s, now))
		wantMaps(t, "drawn, of one and another shape", s, r.tree(s, was), s.build(now...))
		if t.Failed() {
			t.Fatalf("the seed %d", seed)
		}
	}
}
