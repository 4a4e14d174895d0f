package diff_test

import (
	"encoding/hex"
	"fmt"
	"maps"
	"math/rand"
	"slices"
	"strconv"
	"strings"
	"testing"

	"tussock/api"
	"tussock/diff"
	"tussock/object"
	"tussock/prolly"
)

// shelf has objects' bytes by their ids, and notes what it is asked. For an id that has an error it answers that.
type shelf struct {
	has   map[string]string
	errs  map[string]api.Errno
	asked []string
}

func newShelf() *shelf { return &shelf{has: map[string]string{}, errs: map[string]api.Errno{}} }

func (s *shelf) get(id string) (string, api.Errno) {
	s.asked = append(s.asked, strings.Clone(id))
	return s.look(id)
}

// look is get without a note.
func (s *shelf) look(id string) (string, api.Errno) {
	if e := s.errs[id]; e != api.OK {
		return "", e
	}
	b, ok := s.has[id]
	if !ok {
		return "", api.ErrMissing
	}
	return b, api.OK
}

func (s *shelf) lay(objs ...api.Object) {
	for _, o := range objs {
		s.has[o.Id] = o.Bytes
	}
}

// build lays a map as prolly builds it: its root.
func (s *shelf) build(pairs ...api.Pair) string {
	root, objs, e := prolly.Build(pairs...)
	if e != api.OK {
		panic(e)
	}
	s.lay(objs...)
	return root
}

// leaf lays a leaf: the link to it.
func (s *shelf) leaf(pairs ...api.Pair) api.Link {
	o, e := object.Leaf(pairs...)
	if e != api.OK {
		panic(e)
	}
	s.lay(o)
	l := api.Link{Id: o.Id, Many: int64(len(pairs))}
	if len(pairs) > 0 {
		l.Last = pairs[len(pairs)-1].Key
	}
	return l
}

// letters lays a leaf of a pair for each letter.
func (s *shelf) letters(keys string) api.Link { return s.leaf(letters(keys)...) }

// branch lays a branch: the link to it.
func (s *shelf) branch(level int, kids ...api.Link) api.Link {
	o := branchOf(level, kids...)
	s.lay(o)
	l := api.Link{Id: o.Id, Last: kids[len(kids)-1].Last}
	for _, k := range kids {
		l.Many += k.Many
	}
	return l
}

func branchOf(level int, kids ...api.Link) api.Object {
	o, e := object.Branch(api.Branch{Level: level, Kids: kids})
	if e != api.OK {
		panic(e)
	}
	return o
}

// tower lays branches over a node, one above the other, up to a level.
func (s *shelf) tower(l api.Link, from, to int) api.Link {
	for level := from; level <= to; level++ {
		l = s.branch(level, l)
	}
	return l
}

// nodes are how often each id stands among the nodes of a map, as far as they are here.
func (s *shelf) nodes(root string) map[string]int {
	out := map[string]int{root: 1}
	row := []string{root}
	for range 21 {
		var below []string
		for _, id := range row {
			b, _ := object.TakeBranch(s.has[id])
			for _, kid := range b.Kids {
				out[kid.Id]++
				below = append(below, kid.Id)
			}
		}
		row = below
	}
	return out
}

// byLevel are the nodes of a map, from the root's level down to the leaves.
func (s *shelf) byLevel(root string) [][]string {
	row := []string{root}
	var out [][]string
	for len(row) > 0 {
		out = append(out, row)
		var below []string
		for _, id := range row {
			b, _ := object.TakeBranch(s.has[id])
			for _, kid := range b.Kids {
				below = append(below, kid.Id)
			}
		}
		row = below
	}
	return out
}

func (s *shelf) level(root string) int { return len(s.byLevel(root)) - 1 }

// id is one of 256 that are nobody's.
func id(c byte) string { return repeated(c, 32) }

func repeated(c byte, n int) string { return strings.Repeat(string([]byte{c}), n) }

func pairsOf(keys ...string) []api.Pair {
	var out []api.Pair
	for _, k := range keys {
		out = append(out, api.Pair{Key: k, Val: "value of " + k[:min(len(k), 20)]})
	}
	return out
}

func letters(keys string) []api.Pair { return pairsOf(strings.Split(keys, "")...) }

// numbered are n pairs whose keys count up.
func numbered(n int) []api.Pair {
	var out []api.Pair
	for i := range n {
		out = append(out, api.Pair{Key: "k" + strconv.Itoa(10000+i), Val: strconv.Itoa(i)})
	}
	return out
}

// with are pairs with another one laid among them.
func with(pairs []api.Pair, key, val string) []api.Pair {
	at, there := slices.BinarySearchFunc(pairs, key, func(p api.Pair, k string) int { return strings.Compare(p.Key, k) })
	out := slices.Clone(pairs)
	if there {
		out[at].Val = val
		return out
	}
	return slices.Insert(out, at, api.Pair{Key: key, Val: val})
}

// without are pairs without one of them.
func without(pairs []api.Pair, at int) []api.Pair {
	return slices.Delete(slices.Clone(pairs), at, at+1)
}

// sizesAtEdges are how many pairs a map has where something may change.
var sizesAtEdges = []int{1, 2, 3, 17, 63, 64, 65, 66, 129, 1000, 4095, 4096}

func drawn(r *rand.Rand, n int) string {
	b := make([]byte, n)
	r.Read(b)
	return string(b)
}

func sorted(byKey map[string]string) []api.Pair {
	var out []api.Pair
	for _, k := range slices.Sorted(maps.Keys(byKey)) {
		out = append(out, api.Pair{Key: k, Val: byKey[k]})
	}
	return out
}

// plainChanges are the changes between two lists of pairs, by looking at all keys.
func plainChanges(was, now []api.Pair) []api.Change {
	byKey := map[string]api.Change{}
	for _, p := range was {
		byKey[p.Key] = api.Change{Key: p.Key, Was: p.Val, Had: true}
	}
	for _, p := range now {
		c := byKey[p.Key]
		c.Key, c.Now, c.Has = p.Key, p.Val, true
		byKey[p.Key] = c
	}
	var out []api.Change
	for _, k := range slices.Sorted(maps.Keys(byKey)) {
		if c := byKey[k]; c.Was != c.Now || c.Had != c.Has {
			out = append(out, c)
		}
	}
	return out
}

func turnedRound(l []api.Change) []api.Change {
	var out []api.Change
	for _, c := range l {
		out = append(out, api.Change{Key: c.Key, Was: c.Now, Had: c.Has, Now: c.Was, Has: c.Had})
	}
	return out
}

// told tells the first ones of changes.
func told(l []api.Change) string {
	var out []string
	for _, c := range l[:min(len(l), 5)] {
		out = append(out, fmt.Sprintf("%.20q: %.20q %t, %.20q %t", c.Key, c.Was, c.Had, c.Now, c.Has))
	}
	return strings.Join(out, "; ")
}

// head tells an id by its first digits.
func head(id string) string { return hex.EncodeToString([]byte(id[:min(len(id), 4)])) }

// listed are the pairs of a map that is here whole.
func listed(t *testing.T, what string, s *shelf, root string) []api.Pair {
	t.Helper()
	l, e := prolly.List(s.look, root, "", "")
	if e != api.OK {
		t.Fatalf("%s: the map %s is not whole: %d", what, head(root), e)
	}
	return l
}

// wantMaps asks for the changes between two maps that are here whole, either way round, and looks at all that is asked for.
func wantMaps(t *testing.T, what string, s *shelf, a, b string) {
	t.Helper()
	want := plainChanges(listed(t, what, s, a), listed(t, what, s, b))
	wantOneWay(t, what, s, a, b, want)
	wantOneWay(t, what+", the other way round", s, b, a, turnedRound(want))
	wantPutsMake(t, what, s, a, b, want)
	wantPutsMake(t, what+", the other way round", s, b, a, turnedRound(want))
}

func wantOneWay(t *testing.T, what string, s *shelf, a, b string, want []api.Change) {
	t.Helper()
	s.asked = nil
	got, e := diff.Maps(s.get, a, b)
	if e != api.OK || !slices.Equal(got, want) {
		t.Errorf("%s: %d, %d changes (%s); want %d (%s)", what, e, len(got), told(got), len(want), told(want))
	}
	wantAsked(t, what, s, a, b)
}

// wantAsked asks that no id was asked for twice, and, but for the roots, none that both maps have or that neither has.
func wantAsked(t *testing.T, what string, s *shelf, a, b string) {
	t.Helper()
	if a == b && len(s.asked) > 0 {
		t.Errorf("%s: one root: asked for %d nodes", what, len(s.asked))
	}
	wantNoneTwice(t, what, s)
	ofA, ofB := s.nodes(a), s.nodes(b)
	for _, id := range s.asked {
		inA, inB := ofA[id] > 0, ofB[id] > 0
		if id != a && id != b && inA == inB {
			t.Errorf("%s: asked for %s; in the first map: %t, in the second one: %t", what, head(id), inA, inB)
		}
	}
}

func wantNoneTwice(t *testing.T, what string, s *shelf) {
	t.Helper()
	times := map[string]int{}
	for _, id := range s.asked {
		if times[id]++; times[id] == 2 {
			t.Errorf("%s: asked for %s twice", what, head(id))
		}
	}
}

// wantPutsMake asks that the puts of changes make the second map of the first one.
func wantPutsMake(t *testing.T, what string, s *shelf, a, b string, l []api.Change) {
	t.Helper()
	want, _, e := prolly.Build(listed(t, what, s, b)...)
	got, _, e2 := prolly.Edit(s.look, a, diff.Puts(l...)...)
	if e != api.OK || e2 != api.OK || got != want {
		t.Errorf("%s: the puts of the changes make %s (%d); want %s (%d)", what, head(got), e2, head(want), e)
	}
}

// wantError asks for an error, either way round, and for nothing beside it.
func wantError(t *testing.T, what string, s *shelf, a, b string, want api.Errno) {
	t.Helper()
	for _, x := range [][2]string{{a, b}, {b, a}} {
		s.asked = nil
		if l, e := diff.Maps(s.get, x[0], x[1]); e != want || len(l) != 0 {
			t.Errorf("%s: %d, %d changes; want %d alone", what, e, len(l), want)
		}
		wantNoneTwice(t, what, s)
	}
}

// wantEnds asks for what may be answered of any roots: an error that get answered, ErrProllyCorrupt, or some changes.
func wantEnds(t *testing.T, what string, s *shelf, a, b string) {
	t.Helper()
	for _, x := range [][2]string{{a, b}, {b, a}} {
		s.asked = nil
		l, e := diff.Maps(s.get, x[0], x[1])
		wantNoneTwice(t, what, s)
		if e == api.OK {
			wantRightChanges(t, what, l)
			continue
		}
		answered := e == api.ErrProllyCorrupt
		for _, id := range s.asked {
			_, got := s.look(id)
			answered = answered || got == e
		}
		if !answered || len(l) != 0 {
			t.Errorf("%s: %d, %d changes: no error that get answered, or not alone", what, e, len(l))
		}
	}
}

// wantRightChanges asks for changes that could be some maps': by rising keys, each of something.
func wantRightChanges(t *testing.T, what string, l []api.Change) {
	t.Helper()
	last := ""
	for _, c := range l {
		same := c.Had == c.Has && c.Was == c.Now
		if c.Key <= last || same || !c.Had && c.Was != "" || !c.Has && c.Now != "" {
			t.Errorf("%s: the change %s behind %q", what, told([]api.Change{c}), last)
		}
		last = c.Key
	}
}
