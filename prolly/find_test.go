package prolly_test

import (
	"math"
	"math/rand"
	"testing"

	"tussock/api"
	"tussock/prolly"
)

// errorsOfGet are of all layers, and of none.
var errorsOfGet = []api.Errno{api.ErrNil, api.ErrArg, api.ErrMissing, api.ErrDiskIO, api.ErrStoreCorrupt, api.ErrProllyForm, api.ErrProllyMany, api.ErrProllyCorrupt, api.ErrRemoteUnavailable, 999, -1, math.MaxInt32, math.MinInt32}

// P12.2: the chapter's examples.
func TestExamplesOfFind(t *testing.T) {
	s, root := built(t, api.Pair{Key: "a", Val: "1"}, api.Pair{Key: "b", Val: "2"})
	for _, c := range []struct {
		key, val string
		ok       bool
	}{{"a", "1", true}, {"b", "2", true}, {"c", "", false}} {
		if val, ok, e := prolly.Find(s.get, root, c.key); val != c.val || ok != c.ok || e != api.OK {
			t.Errorf("Find(%q): %q %t %d", c.key, val, ok, e)
		}
	}
	if l, e := prolly.List(s.get, root, "b", ""); len(l) != 1 || l[0] != (api.Pair{Key: "b", Val: "2"}) || e != api.OK {
		t.Errorf("List: %v %d", l, e)
	}
	if n, e := prolly.Many(s.get, root); n != 2 || e != api.OK {
		t.Errorf("Many: %d %d", n, e)
	}
}

// P12.2: which keys are there, which ids are asked, in which order.
func TestFindInASmallMap(t *testing.T) {
	x := newSmall()
	for _, c := range []struct {
		key   string
		there bool
		asked []api.Link
	}{
		{"a", false, []api.Link{x.root, x.left, x.bd}}, // ahead of all
		{"b", true, []api.Link{x.root, x.left, x.bd}},
		{"c", false, []api.Link{x.root, x.left, x.bd}},
		{"d", true, []api.Link{x.root, x.left, x.bd}},      // a leaf's last key
		{"d\x00", false, []api.Link{x.root, x.left, x.fh}}, // just behind it
		{"e", false, []api.Link{x.root, x.left, x.fh}},
		{"f", true, []api.Link{x.root, x.left, x.fh}},
		{"h", true, []api.Link{x.root, x.left, x.fh}}, // a branch's last key
		{"h\x00", false, []api.Link{x.root, x.right, x.k}},
		{"k", true, []api.Link{x.root, x.right, x.k}},
		{"k\x00", false, []api.Link{x.root, x.right, x.mpr}},
		{"m", true, []api.Link{x.root, x.right, x.mpr}},
		{"n", false, []api.Link{x.root, x.right, x.mpr}},
		{"p", true, []api.Link{x.root, x.right, x.mpr}},
		{"r", true, []api.Link{x.root, x.right, x.mpr}}, // the last one
		{"r\x00", false, []api.Link{x.root}},            // behind all
		{"\xff", false, []api.Link{x.root}},
		{repeated('h', 64), false, []api.Link{x.root, x.right, x.k}},
		{repeated('z', 64), false, []api.Link{x.root}},
	} {
		x.steps = nil
		want := ""
		if c.there {
			want = "value of " + c.key
		}
		if val, ok, e := prolly.Find(x.get, x.root.Id, c.key); val != want || ok != c.there || e != api.OK {
			t.Errorf("Find(%q): %q %t %d; want %q %t", c.key, val, ok, e, want, c.there)
		}
		wantAsked(t, c.key, x.shelf, idsOf(c.asked...)...)
		wantFound(t, "the model", x.shelf, x.root.Id, c.key)
	}
}

// P12.2: all keys of maps of each size, and those beside them.
func TestFindEachKey(t *testing.T) {
	r := rand.New(rand.NewSource(2))
	for _, n := range sizesAtEdges {
		for _, pairs := range [][]api.Pair{numbered(n), drawnPairs(r, n)} {
			s, root := built(t, pairs...)
			for _, p := range pairs {
				if val, ok, e := prolly.Find(s.look, root, p.Key); val != p.Val || !ok || e != api.OK {
					t.Fatalf("of %d pairs: Find(%q): %q %t %d", n, p.Key, val, ok, e)
				}
			}
			if n > 200 {
				pairs = append(pairs[:100:100], pairs[n-20:]...)
			}
			for _, key := range around(pairs) {
				wantFound(t, "a built map", s, root, key)
			}
			wantMany(t, "a built map", s, root)
		}
	}
}

// P12.2: a value of no bytes is there all the same.
func TestFindOfAnEmptyValue(t *testing.T) {
	s, root := built(t, api.Pair{Key: "a"}, api.Pair{Key: "b", Val: "2"})
	if val, ok, e := prolly.Find(s.get, root, "a"); val != "" || !ok || e != api.OK {
		t.Errorf("%q %t %d", val, ok, e)
	}
}

// P12.2: ErrArg, and get is not asked, whatever it would answer.
func TestFindOfWrongKeys(t *testing.T) {
	x := newSmall()
	x.errs[x.root.Id] = api.ErrDiskIO
	for _, n := range []int{0, 65, 66, 1000, 1 << 16} {
		key := repeated('k', n)
		for _, root := range []string{x.root.Id, "", id('x')} {
			if val, ok, e := prolly.Find(x.get, root, key); val != "" || ok || e != api.ErrArg {
				t.Errorf("a key of %d bytes: %q %t %d", n, val, ok, e)
			}
			if val, ok, e := prolly.Find(nil, root, key); val != "" || ok || e != api.ErrArg {
				t.Errorf("a key of %d bytes, no get: %q %t %d", n, val, ok, e)
			}
		}
	}
	wantAsked(t, "wrong keys", x.shelf)
	for _, n := range []int{1, 2, 63, 64} {
		if val, ok, e := prolly.Find(x.get, x.root.Id, repeated('k', n)); val != "" || ok || e != api.ErrDiskIO {
			t.Errorf("a key of %d bytes: %q %t %d", n, val, ok, e)
		}
	}
}

// P12.2: Many asks for the root alone: what is below it may be missing, or other than the root says.
func TestManyByTheRootAlone(t *testing.T) {
	s := shelfOf()
	for _, c := range []struct {
		root string
		want int64
	}{
		{s.layLeaf().Id, 0},
		{s.layLeaf(letters("a")...).Id, 1},
		{s.layLeaf(numbered(64)...).Id, 64},
		{s.layBranch(1, api.Link{Last: "a", Id: id('x'), Many: 1}).Id, 1},
		{s.layBranch(20, api.Link{Last: "a", Id: id('x'), Many: 4096}).Id, 4096},
		{s.layBranch(7, api.Link{Last: "a", Id: id('x'), Many: 4000}, api.Link{Last: "b", Id: id('x'), Many: 96}).Id, 4096},
		{s.layBranch(3, api.Link{Last: "a", Id: id('x'), Many: 5}, api.Link{Last: "b", Id: id('y'), Many: 7}, api.Link{Last: "c", Id: id('z'), Many: 1}).Id, 13},
	} {
		s.steps = nil
		if n, e := prolly.Many(s.get, c.root); n != c.want || e != api.OK {
			t.Errorf("Many: %d %d; want %d", n, e, c.want)
		}
		wantAsked(t, "Many", s, c.root)
	}
	x := newSmall()
	if n, e := prolly.Many(x.get, x.root.Id); n != 8 || e != api.OK {
		t.Errorf("Many: %d %d", n, e)
	}
	wantAsked(t, "Many", x.shelf, x.root.Id)
}

// P12.2: what is not gone to may be broken.
func TestFindGoesOneWay(t *testing.T) {
	x := newSmall()
	for _, l := range []api.Link{x.left, x.bd, x.fh, x.k} {
		x.has[l.Id] = "nothing"
	}
	if val, ok, e := prolly.Find(x.get, x.root.Id, "p"); val != "value of p" || !ok || e != api.OK {
		t.Errorf("%q %t %d", val, ok, e)
	}
	if val, ok, e := prolly.Find(x.get, x.root.Id, "b"); val != "" || ok || e != api.ErrProllyCorrupt {
		t.Errorf("%q %t %d", val, ok, e)
	}
}

// P12.2: of a leaf the key alone is looked for; pairs that are out of place there make no difference.
func TestFindAmongPairsOutOfPlace(t *testing.T) {
	s := shelfOf()
	one, two := s.layLeaf(letters("bx")...), s.layLeaf(letters("acz")...)
	root := s.layBranch(1, one, two).Id
	for key, there := range map[string]bool{"b": true, "x": true, "a": false, "c": false, "y": false, "z": true} {
		if _, ok, e := prolly.Find(s.get, root, key); ok != there || e != api.OK {
			t.Errorf("Find(%q): %t %d", key, ok, e)
		}
		wantFound(t, "out of place", s, root, key)
	}
}
