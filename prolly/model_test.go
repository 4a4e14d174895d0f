package prolly_test

import (
	"maps"
	"math/rand"
	"slices"
	"strings"
	"testing"

	"tussock/api"
)

// draw says what drawn maps, and what is asked of them, are made of.
type draw struct{ *rand.Rand }

func (r draw) seldom() bool { return r.Intn(30) == 0 }

// key is one of few, so that they meet; now and then none.
func (r draw) key() string {
	switch r.Intn(40) {
	case 0:
		return ""
	case 1:
		return repeated('b', 63+r.Intn(4))
	}
	b := make([]byte, 1+r.Intn(3))
	for i := range b {
		b[i] = "\x00abcdefgh\xff"[r.Intn(10)]
	}
	return string(b)
}

// rightKey is one that may stand in a map.
func (r draw) rightKey() string {
	for {
		if k := r.key(); k != "" && len(k) <= 64 {
			return k
		}
	}
}

// pairs are up to n, by rising keys.
func (r draw) pairs(n int) []api.Pair {
	byKey := map[string]string{}
	for range n {
		byKey[r.rightKey()] = drawn(r.Rand, r.Intn(4))
	}
	return sorted(byKey)
}

// leaves are as their links say, and their last keys rise; their other pairs are now and then out of place.
func (r draw) leaves(s *shelf) []api.Link {
	var out []api.Link
	rest := r.pairs(1 + r.Intn(40))
	for len(rest) > 0 {
		n := 1 + r.Intn(min(len(rest), 5))
		pairs := slices.Clone(rest[:n])
		rest = rest[n:]
		if r.Intn(8) == 0 {
			strange := api.Pair{Key: r.rightKey()}
			at, there := slices.BinarySearchFunc(pairs, strange.Key, func(p api.Pair, k string) int { return strings.Compare(p.Key, k) })
			if !there && at < len(pairs) {
				pairs = slices.Insert(pairs, at, strange)
			}
		}
		out = append(out, s.layLeaf(pairs...))
	}
	return out
}

// tree is a map of another shape than Build gives: groups of any size. Now and then a link does not agree with its kid.
func (r draw) tree(s *shelf) string {
	nodes := r.leaves(s)
	for level := 1; len(nodes) > 1 || r.Intn(3) == 0 && level <= 20; level++ {
		var above []api.Link
		for len(nodes) > 0 {
			n := min(len(nodes), 1+r.Intn(5))
			if level > 8 {
				n = min(len(nodes), 64)
			}
			kids := slices.Clone(nodes[:n])
			nodes = nodes[n:]
			if r.Intn(80) == 0 {
				r.bend(&kids[r.Intn(n)])
			}
			if l := s.layBranch(level, kids...); len(above) == 0 || above[len(above)-1].Last < l.Last {
				above = append(above, l)
			}
		}
		nodes = above
	}
	return nodes[0].Id
}

// bend makes a link another one.
func (r draw) bend(l *api.Link) {
	switch r.Intn(4) {
	case 0:
		l.Last = r.rightKey()
	case 1:
		l.Many += int64(r.Intn(3) - 1)
	case 2:
		l.Id = id('x')
	case 3:
		l.Last += "\x00"
	}
}

// harm breaks some of what lies on a shelf.
func (r draw) harm(s *shelf) {
	ids := slices.Sorted(maps.Keys(s.has))
	for range r.Intn(3) {
		id := ids[r.Intn(len(ids))]
		was := s.has[id]
		switch r.Intn(7) {
		case 0:
			delete(s.has, id)
		case 1:
			s.errs[id] = errorsOfGet[r.Intn(len(errorsOfGet))]
		case 2:
			s.has[id] = s.has[ids[r.Intn(len(ids))]]
		case 3:
			b := []byte(was)
			if len(b) > 0 {
				b[r.Intn(len(b))] ^= byte(1 + r.Intn(255))
			}
			s.has[id] = string(b)
		case 4:
			forms := notNodes()
			names := slices.Sorted(maps.Keys(forms))
			s.has[id] = forms[names[r.Intn(len(names))]]
		case 5:
			s.has[id] = was[:r.Intn(len(was)+1)] + drawn(r.Rand, r.Intn(3))
		case 6:
			s.has[id] = r.changed(was)
		}
	}
}

// changed is another leaf or branch, in one way, than bytes say.
func (r draw) changed(b string) string {
	n, ok := takePlainNode(b)
	switch {
	case !ok:
		return "L\x00"
	case n.Level == 0:
		i := r.Intn(len(n.pairs) + 1)
		if i == len(n.pairs) {
			return plainLeaf(r.pairs(5))
		}
		n.pairs[i] = api.Pair{Key: r.rightKey(), Val: n.pairs[i].Val}
		return plainLeaf(n.pairs)
	}
	if r.Intn(4) == 0 {
		n.Level += r.Intn(3) - 1
	}
	r.bend(&n.Kids[r.Intn(len(n.Kids))])
	return plainBranch(n.Branch)
}

func (r draw) puts() []api.Put {
	var out []api.Put
	for range r.Intn(20) {
		p := api.Put{Key: r.rightKey(), Val: drawn(r.Rand, r.Intn(4)), Gone: r.Intn(3) == 0}
		if p.Gone && r.Intn(50) > 0 {
			p.Val = ""
		}
		out = append(out, p)
	}
	if r.seldom() {
		out = append(out, api.Put{Key: r.key()})
	}
	return out
}

func (r draw) askAll(t *testing.T, s *shelf, root string) {
	t.Helper()
	wantMany(t, "drawn", s, root)
	wantListed(t, "drawn", s, root, "", "")
	wantGone(t, "drawn", s, root, r.key())
	for range 5 {
		wantFound(t, "drawn", s, root, r.key())
		wantListed(t, "drawn", s, root, r.key(), r.key())
	}
	wantEdited(t, "drawn", s, root, r.puts()...)
}

// P12.1 to P12.4: drawn maps, whole and broken, against the plain model.
func TestDrawnMaps(t *testing.T) {
	for seed := range int64(1000) {
		r := draw{rand.New(rand.NewSource(seed))}
		pairs := r.pairs(r.Intn(1 + r.Intn(400)))
		wantBuilt(t, "drawn", pairs...)
		s, root := built(t, pairs...)
		r.askAll(t, s, root)
		r.harm(s)
		r.askAll(t, s, root)
		if t.Failed() {
			t.Fatalf("the seed %d", seed)
		}
	}
}

// P12.2 to P12.4: drawn trees of other shapes, whole and broken, against the plain model.
func TestDrawnTrees(t *testing.T) {
	for seed := range int64(3000) {
		r := draw{rand.New(rand.NewSource(seed))}
		s := shelfOf()
		root := r.tree(s)
		r.askAll(t, s, root)
		r.harm(s)
		r.askAll(t, s, root)
		if t.Failed() {
			t.Fatalf("the seed %d", seed)
		}
	}
}

// P12.1: drawn lists of pairs, right and wrong, against the words.
func TestDrawnPairs(t *testing.T) {
	for seed := range int64(3000) {
		r := draw{rand.New(rand.NewSource(seed))}
		pairs := r.pairs(r.Intn(80))
		for range r.Intn(2) {
			if len(pairs) > 0 {
				r.spoil(pairs)
			}
		}
		right := slices.IsSortedFunc(pairs, func(a, b api.Pair) int { return strings.Compare(a.Key, b.Key) })
		for i, p := range pairs {
			right = right && p.Key != "" && len(p.Key) <= 64 && len(p.Val) <= 128 && (i == 0 || pairs[i-1].Key != p.Key)
		}
		if right {
			wantBuilt(t, "drawn", pairs...)
		} else {
			wantNotBuilt(t, "drawn", api.ErrProllyForm, pairs...)
		}
	}
}

// spoil makes one of the pairs another one, which may be wrong.
func (r draw) spoil(pairs []api.Pair) {
	i, j := r.Intn(len(pairs)), r.Intn(len(pairs))
	switch r.Intn(4) {
	case 0:
		pairs[i].Key = r.key()
	case 1:
		pairs[i].Val = repeated('v', 126+r.Intn(5))
	case 2:
		pairs[i], pairs[j] = pairs[j], pairs[i]
	case 3:
		pairs[i].Key = pairs[j].Key
	}
}

// P12.1 to P12.5: a map, a piece of it, what is done to it, and one of its objects that is other bytes, against the plain model.
func FuzzAsTheModel(f *testing.F) {
	f.Add([]byte("a1b2c3d4e5"), "b", "d", "c", 0, []byte("L\x02\x02a\x021"))
	f.Add([]byte(strings.Repeat("some keys and values ", 20)), "", "", "k", 1, []byte("B\x02\x02\x02k"+id('k')+"\x02"))
	f.Add([]byte{}, "z", "a", "", 0, []byte("L\x00"))
	f.Fuzz(func(t *testing.T, b []byte, lo, hi, key string, at int, other []byte) {
		if len(b) > 10000 {
			return
		}
		byKey := map[string]string{}
		for piece := range slices.Chunk(b, 4) {
			byKey[string(piece[:(len(piece)+1)/2])] = string(piece[(len(piece)+1)/2:])
		}
		pairs := sorted(byKey)
		wantBuilt(t, "the map", pairs...)
		s, root := built(t, pairs...)
		ask := func(what string) {
			wantMany(t, what, s, root)
			wantFound(t, what, s, root, key)
			wantListed(t, what, s, root, "", "")
			wantListed(t, what, s, root, lo, hi)
			wantGone(t, what, s, root, lo)
			wantEdited(t, what, s, root, api.Put{Key: key, Val: hi}, api.Put{Key: lo, Gone: true})
		}
		ask("whole")
		ids := slices.Sorted(maps.Keys(s.has))
		s.has[ids[int(uint(at)%uint(len(ids)))]] = string(other)
		ask("broken")
		s.has[root] = string(other)
		ask("another root")
	})
}
