package prolly_test

import (
	"math/rand"
	"slices"
	"strings"
	"testing"

	"tussock/api"
	"tussock/prolly"
)

// P12.2: which pairs are told, which ids are asked, in which order.
func TestListOfASmallMap(t *testing.T) {
	x := newSmall()
	all := []api.Link{x.root, x.left, x.bd, x.fh, x.right, x.k, x.mpr}
	for _, c := range []struct {
		lo, hi, want string
		asked        []api.Link
	}{
		{"", "", "bdfhkmpr", all},
		{"a", "", "bdfhkmpr", all},
		{"b", "", "bdfhkmpr", all},
		{"c", "", "dfhkmpr", all},
		{"d", "", "dfhkmpr", all},
		{"d\x00", "", "fhkmpr", []api.Link{x.root, x.left, x.fh, x.right, x.k, x.mpr}},
		{"h", "", "hkmpr", []api.Link{x.root, x.left, x.fh, x.right, x.k, x.mpr}},
		{"h\x00", "", "kmpr", []api.Link{x.root, x.right, x.k, x.mpr}},
		{"n", "", "pr", []api.Link{x.root, x.right, x.mpr}},
		{"r", "", "r", []api.Link{x.root, x.right, x.mpr}},
		{"r\x00", "", "", []api.Link{x.root}},
		{"", "\x00", "", []api.Link{x.root, x.left, x.bd}},
		{"", "b", "", []api.Link{x.root, x.left, x.bd}},
		{"", "c", "b", []api.Link{x.root, x.left, x.bd}},
		{"", "d", "b", []api.Link{x.root, x.left, x.bd}},
		{"", "d\x00", "bd", []api.Link{x.root, x.left, x.bd, x.fh}},
		{"", "f", "bd", []api.Link{x.root, x.left, x.bd, x.fh}},
		{"", "h", "bdf", []api.Link{x.root, x.left, x.bd, x.fh}},
		{"", "h\x00", "bdfh", []api.Link{x.root, x.left, x.bd, x.fh, x.right, x.k}},
		{"", "k", "bdfh", []api.Link{x.root, x.left, x.bd, x.fh, x.right, x.k}},
		{"", "l", "bdfhk", all},
		{"", "r", "bdfhkmp", all},
		{"", "s", "bdfhkmpr", all},
		{"d", "h", "df", []api.Link{x.root, x.left, x.bd, x.fh}},
		{"e", "l", "fhk", []api.Link{x.root, x.left, x.fh, x.right, x.k, x.mpr}},
		{"h", "k", "h", []api.Link{x.root, x.left, x.fh, x.right, x.k}},
		{"i", "j", "", []api.Link{x.root, x.right, x.k}},
		{"b", "b", "", []api.Link{x.root, x.left, x.bd}}, // the same
		{"d", "d", "", []api.Link{x.root, x.left, x.bd}},
		{"e", "e", "", []api.Link{x.root, x.left, x.fh}},
		{"m", "m", "", []api.Link{x.root, x.right, x.mpr}},
		{"z", "z", "", []api.Link{x.root}},
		{"c", "b", "", []api.Link{x.root, x.left, x.bd}}, // lo behind hi
		{"g", "c", "", []api.Link{x.root, x.left}},
		{"m", "c", "", []api.Link{x.root}},
		{"p", "j", "", []api.Link{x.root, x.right}},
		{"r", "n", "", []api.Link{x.root, x.right, x.mpr}},
		{"z", "a", "", []api.Link{x.root}},
		{repeated('d', 65), "", "fhkmpr", []api.Link{x.root, x.left, x.fh, x.right, x.k, x.mpr}}, // no keys
		{"", repeated('d', 100), "bd", []api.Link{x.root, x.left, x.bd, x.fh}},
		{repeated('a', 1000), repeated('k', 70), "bdfhk", all},
		{repeated('z', 65), "", "", []api.Link{x.root}},
	} {
		x.steps = nil
		want := letters(c.want)
		if c.want == "" {
			want = nil
		}
		if got, e := prolly.List(x.get, x.root.Id, c.lo, c.hi); !slices.Equal(got, want) || e != api.OK {
			t.Errorf("List(%q, %q): %d, %v; want %s", c.lo, c.hi, e, got, c.want)
		}
		wantAsked(t, c.lo+" up to "+c.hi, x.shelf, idsOf(c.asked...)...)
		wantListed(t, "the model", x.shelf, x.root.Id, c.lo, c.hi)
	}
}

// P12.2: each two places of a small map.
func TestListFromEachPlaceToEach(t *testing.T) {
	x := newSmall()
	places := append(around(letters("bdfhkmpr")), "", repeated('k', 65))
	for _, lo := range places {
		for _, hi := range places {
			wantListed(t, "the small map", x.shelf, x.root.Id, lo, hi)
		}
		wantGone(t, "the small map", x.shelf, x.root.Id, lo)
	}
}

// P12.2: maps of each size, from drawn places to drawn ones.
func TestListOfBuiltMaps(t *testing.T) {
	r := rand.New(rand.NewSource(3))
	for _, n := range sizesAtEdges {
		for _, pairs := range [][]api.Pair{numbered(n), drawnPairs(r, n)} {
			s, root := built(t, pairs...)
			if got, e := prolly.List(s.get, root, "", ""); !slices.Equal(got, pairs) || e != api.OK {
				t.Errorf("of %d pairs: %d, %d pairs", n, e, len(got))
			}
			places := append(around(pairs), "", "", repeated('k', 65))
			for range 30 {
				lo, hi := places[r.Intn(len(places))], places[r.Intn(len(places))]
				wantListed(t, "a built map", s, root, lo, hi)
				want := slices.DeleteFunc(slices.Clone(pairs), func(p api.Pair) bool { return p.Key < lo || hi != "" && p.Key >= hi })
				if got, e := prolly.List(s.get, root, lo, hi); !slices.Equal(got, want) || e != api.OK {
					t.Errorf("of %d pairs: List(%q, %q): %d, %d pairs; want %d", n, lo, hi, e, len(got), len(want))
				}
			}
		}
	}
}

// P12.2: a map without pairs has none, from anywhere to anywhere.
func TestListOfNoPairs(t *testing.T) {
	s, root := built(t)
	for _, lo := range []string{"", "a", repeated('a', 65)} {
		for _, hi := range []string{"", "a", repeated('a', 65)} {
			s.steps = nil
			if got, e := prolly.List(s.get, root, lo, hi); len(got) != 0 || e != api.OK {
				t.Errorf("List(%q, %q): %d, %v", lo, hi, e, got)
			}
			wantAsked(t, "no pairs", s, root)
		}
		wantGone(t, "no pairs", s, root, lo)
	}
}

// overlapping are two leaves whose keys do not rise from one to the other.
func overlapping() (*shelf, api.Link, api.Link, string) {
	s := shelfOf()
	one, two := s.layLeaf(letters("bdh")...), s.layLeaf(letters("cfm")...)
	return s, one, two, s.layBranch(1, one, two).Id
}

// P12.2: a pair that is not behind the one told ahead of it is an error; those beside lo and hi are not looked at.
func TestListOfPairsOutOfPlace(t *testing.T) {
	s, one, two, root := overlapping()
	for _, c := range []struct{ lo, hi, want string }{
		{"i", "", "m"}, // neither b, d, h nor c, f
		{"h\x00", "", "m"},
		{"", "c", "b"}, // the second leaf is not gone to
		{"", "h", "bd"},
		{"e", "h", ""},
		{"i", "m", ""},
		{"i", "n", "m"},
	} {
		want := letters(c.want)
		if c.want == "" {
			want = nil
		}
		if got, e := prolly.List(s.get, root, c.lo, c.hi); !slices.Equal(got, want) || e != api.OK {
			t.Errorf("List(%q, %q): %d, %v; want %s", c.lo, c.hi, e, got, c.want)
		}
		wantListed(t, "out of place", s, root, c.lo, c.hi)
	}
	for _, c := range []struct{ lo, hi string }{{"", ""}, {"b", ""}, {"c", ""}, {"d", ""}, {"f", ""}, {"", "m"}, {"", "i"}, {"c", "z"}} {
		s.steps = nil
		if got, e := prolly.List(s.get, root, c.lo, c.hi); len(got) != 0 || e != api.ErrProllyCorrupt {
			t.Errorf("List(%q, %q): %d, %v", c.lo, c.hi, e, got)
		}
		wantAsked(t, "out of place", s, root, one.Id, two.Id)
		wantListed(t, "out of place", s, root, c.lo, c.hi)
	}
	if got, e := prolly.List(s.get, root, "g", ""); !slices.Equal(got, letters("hm")) || e != api.OK {
		t.Errorf("List from g: %d, %v: c and f are not looked at", e, got)
	}
}

// P12.2: the same key at the end of a leaf and at the beginning of the next one is an error, too.
func TestListOfAKeyTwice(t *testing.T) {
	s := shelfOf()
	root := s.layBranch(1, s.layLeaf(letters("ab")...), s.layLeaf(letters("bc")...)).Id
	wantListError(t, "b twice", s, root, "", "", api.ErrProllyCorrupt)
	wantListError(t, "b twice", s, root, "b", "", api.ErrProllyCorrupt)
	wantListed(t, "b twice", s, root, "b\x00", "")
	wantListed(t, "b twice", s, root, "", "b")
	wantListError(t, "b twice", s, root, "", "b\x00", api.ErrProllyCorrupt)
}

// P12.2: two nodes that are the same object: it is asked for as often as one goes to it; what it tells a second time does not rise.
func TestListOfTheSameObjectTwice(t *testing.T) {
	s := shelfOf()
	twice := s.layLeaf(letters("bd")...)
	m, z := s.layLeaf(letters("m")...), s.layLeaf(letters("z")...)
	one, two := s.layBranch(1, twice, m), s.layBranch(1, twice, z)
	root := s.layBranch(2, one, two).Id
	for _, lo := range []string{"", "b", "d"} {
		s.steps = nil
		if got, e := prolly.List(s.get, root, lo, ""); len(got) != 0 || e != api.ErrProllyCorrupt {
			t.Errorf("List from %q: %d, %v", lo, e, got)
		}
		wantAsked(t, "the same again", s, root, one.Id, twice.Id, m.Id, two.Id, twice.Id)
		wantListed(t, "the same again", s, root, lo, "")
	}
	if got, e := prolly.List(s.get, root, "e", ""); !slices.Equal(got, letters("mz")) || e != api.OK {
		t.Errorf("List from e: %d, %v", e, got)
	}
	if got, e := prolly.List(s.get, root, "", "m"); !slices.Equal(got, letters("bd")) || e != api.OK {
		t.Errorf("List up to m: %d, %v", e, got)
	}
	// As kids of one branch one of them has another last key than its link says.
	other := twice
	other.Last = "e"
	root = s.layBranch(1, twice, other).Id
	wantListError(t, "a kid twice", s, root, "", "", api.ErrProllyCorrupt)
	wantListed(t, "a kid twice", s, root, "", "d")
}

// P12.2: no id is asked about; bytes under another id are read as they are, and a root may have any.
func TestBytesUnderAnotherId(t *testing.T) {
	for _, root := range []string{"", "r", id('r'), strings.Repeat("r", 1000)} {
		s := shelfOf()
		s.has[root] = plainBranch(api.Branch{Level: 1, Kids: []api.Link{{Last: "b", Id: id('x'), Many: 1}, {Last: "d", Id: id('y'), Many: 1}}})
		s.has[id('x')], s.has[id('y')] = plainLeaf(letters("b")), plainLeaf(letters("d"))
		if got, e := prolly.List(s.get, root, "", ""); !slices.Equal(got, letters("bd")) || e != api.OK {
			t.Errorf("%d, %v", e, got)
		}
		if val, ok, e := prolly.Find(s.get, root, "d"); val != "value of d" || !ok || e != api.OK {
			t.Errorf("%q %t %d", val, ok, e)
		}
		wantMany(t, "another id", s, root)
		wantGone(t, "another id", s, root, "")
		wantEdited(t, "another id", s, root, putsOf(letters("c")...)...)
	}
}
