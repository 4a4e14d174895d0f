package prolly_test

import (
	"math/rand"
	"slices"
	"testing"

	"tussock/api"
	"tussock/prolly"
)

// edit is a map with puts done to it; its objects come to the shelf.
func edit(t *testing.T, s *shelf, root string, puts ...api.Put) string {
	t.Helper()
	now, objs, e := prolly.Edit(s.get, root, puts...)
	if e != api.OK {
		t.Fatalf("Edit: %d", e)
	}
	for _, o := range objs {
		s.has[o.Id] = o.Bytes
	}
	return now
}

// P12.5: a map's root hangs on its pairs alone, in whichever order, and by whichever puts, they came.
func TestOneRootForTheSamePairs(t *testing.T) {
	r := rand.New(rand.NewSource(6))
	for _, n := range []int{0, 1, 2, 63, 64, 65, 300, 1000} {
		pairs := drawnPairs(r, n)
		want, objs, _ := prolly.Build(pairs...)
		for range 4 {
			s, root := built(t, drawnPairs(r, r.Intn(100))...)
			was, _ := prolly.List(s.get, root, "", "")
			puts := append(putsOf(pairs...), gone(keysOf(was)...)...)
			r.Shuffle(len(puts), func(i, j int) { puts[i], puts[j] = puts[j], puts[i] })
			for len(puts) > 0 { // some at once, till all are done
				k := 1 + r.Intn(len(puts))
				root = edit(t, s, root, puts[:k]...)
				puts = puts[k:]
			}
			if root != want {
				t.Errorf("%d pairs, come to by another way: another root", n)
			}
		}
		again, more, _ := prolly.Build(slices.Clone(pairs)...)
		if again != want || !slices.Equal(more, objs) {
			t.Errorf("%d pairs: the same ones, and another map", n)
		}
	}
}

// P12.5: other pairs, another root.
func TestAnotherRootForOtherPairs(t *testing.T) {
	pairs := numbered(300)
	roots := map[string]int{}
	for n := range pairs {
		root, _, _ := prolly.Build(pairs[:n]...)
		roots[root]++
		changed := slices.Clone(pairs)
		changed[n].Val += "!"
		root, _, _ = prolly.Build(changed...)
		roots[root]++
		changed[n] = api.Pair{Key: pairs[n].Key + "!", Val: pairs[n].Val}
		root, _, _ = prolly.Build(changed...)
		roots[root]++
	}
	if len(roots) != 900 {
		t.Errorf("%d roots of 900 maps", len(roots))
	}
}

// P12.5: what was built is found, listed, gone through as it was.
func TestWhatWasBuiltIsThere(t *testing.T) {
	r := rand.New(rand.NewSource(7))
	for _, n := range append([]int{200, 500, 2000}, sizesAtEdges...) {
		pairs := drawnPairs(r, n)
		s, root := built(t, pairs...)
		if l, e := prolly.List(s.get, root, "", ""); !slices.Equal(l, pairs) || e != api.OK {
			t.Errorf("List: %d of %d pairs, %d", len(l), n, e)
		}
		i := 0
		for p, e := range prolly.All(s.get, root, "") {
			if e != api.OK || p != pairs[i] {
				t.Fatalf("All: %d, %q", e, p.Key)
			}
			i++
		}
		if i != n {
			t.Errorf("All: %d of %d pairs", i, n)
		}
		for _, p := range pairs {
			if val, ok, e := prolly.Find(s.get, root, p.Key); val != p.Val || !ok || e != api.OK {
				t.Fatalf("Find: %q %t %d", val, ok, e)
			}
		}
		if m, e := prolly.Many(s.get, root); m != int64(n) || e != api.OK {
			t.Errorf("Many: %d of %d, %d", m, n, e)
		}
	}
}

// P12.5: pieces of a map, from key to key, are the whole.
func TestPiecesAreTheWhole(t *testing.T) {
	r := rand.New(rand.NewSource(8))
	pairs := drawnPairs(r, 1500)
	s, root := built(t, pairs...)
	for range 50 {
		cuts := []string{"", drawn(r, 1), drawn(r, 2), pairs[r.Intn(1500)].Key, pairs[r.Intn(1500)].Key}
		slices.Sort(cuts)
		var got []api.Pair
		for i, lo := range cuts {
			hi := ""
			if i+1 < len(cuts) {
				hi = cuts[i+1]
			}
			l, e := prolly.List(s.get, root, lo, hi)
			if e != api.OK {
				t.Fatal(e)
			}
			got = append(got, l...)
		}
		if !slices.Equal(got, pairs) {
			t.Errorf("%d pairs of 1500 in pieces from %q", len(got), cuts)
		}
	}
}

// P12.5: two edits one behind the other are those of both together.
func TestTwoEditsAreOne(t *testing.T) {
	r := rand.New(rand.NewSource(9))
	for range 60 {
		pairs := drawnPairs(r, r.Intn(300))
		s, root := built(t, pairs...)
		draw := func() []api.Put {
			var puts []api.Put
			for range r.Intn(60) {
				p := api.Put{Key: drawn(r, 1), Val: drawn(r, r.Intn(5))}
				if len(pairs) > 0 && r.Intn(2) == 0 {
					p.Key = pairs[r.Intn(len(pairs))].Key
				}
				if r.Intn(2) == 0 {
					p.Val, p.Gone = "", true
				}
				puts = append(puts, p)
			}
			return puts
		}
		one, two := draw(), draw()
		behind := edit(t, s, edit(t, s, root, one...), two...)
		together := edit(t, s, root, append(slices.Clone(one), two...)...)
		if behind != together {
			t.Errorf("%d and %d puts: two roots", len(one), len(two))
		}
	}
}

// P12.5: a change in a great map leaves most of its objects as they were.
func TestMostObjectsStay(t *testing.T) {
	s, root := built(t, numbered(4000)...)
	for _, puts := range [][]api.Put{
		{{Key: "k12000", Val: "another one"}}, {{Key: "k12000", Gone: true}}, {{Key: "k12000x", Val: "new"}}, {{Key: "a", Val: "ahead"}}, {{Key: "z", Val: "behind"}},
	} {
		_, objs, e := prolly.Edit(s.get, root, puts...)
		if e != api.OK {
			t.Fatal(e)
		}
		fresh := 0
		for _, o := range objs {
			if _, ok := s.has[o.Id]; !ok {
				fresh++
			}
		}
		if fresh == 0 || fresh > 12 {
			t.Errorf("%v: %d of %d objects are new", puts, fresh, len(objs))
		}
	}
}
