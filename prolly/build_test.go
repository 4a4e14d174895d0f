package prolly_test

import (
	"fmt"
	"math/rand"
	"slices"
	"strings"
	"testing"

	"tussock/api"
	"tussock/prolly"
)

// shapeOf is how many pairs, or kids, each node has, level by level, in the order in which they are told.
func shapeOf(objs []api.Object) [][]int {
	var out [][]int
	for _, o := range objs {
		n, _ := takePlainNode(o.Bytes)
		for len(out) <= n.Level {
			out = append(out, nil)
		}
		out[n.Level] = append(out[n.Level], len(n.pairs)+len(n.Kids))
	}
	return out
}

func wantShape(t *testing.T, what string, pairs []api.Pair, want ...[]int) {
	t.Helper()
	_, objs, _ := prolly.Build(pairs...)
	if got := shapeOf(objs); !slices.EqualFunc(got, want, slices.Equal[[]int]) {
		t.Errorf("%s: nodes of %d; want %d", what, got, want)
	}
	wantBuilt(t, what, pairs...)
}

// times is a list of n times the same number.
func times(n, number int) []int { return slices.Repeat([]int{number}, n) }

// P12.1: the chapter's examples.
func TestExamplesOfBuild(t *testing.T) {
	root, objs, e := prolly.Build()
	if e != api.OK || len(objs) != 1 || objs[0] != (api.Object{Id: root, Bytes: "L\x00"}) || root != sumOf("L\x00") {
		t.Errorf("of no pairs: %d, %x, %x", e, root, objs)
	}
	ab := []api.Pair{{Key: "a", Val: "1"}, {Key: "b", Val: "2"}}
	root, objs, e = prolly.Build(ab...)
	if want := "L\x04\x02a\x021\x02b\x022"; e != api.OK || len(objs) != 1 || objs[0] != (api.Object{Id: root, Bytes: want}) || root != sumOf(want) {
		t.Errorf("of a and b: %d, %x, %x", e, root, objs)
	}
	wantNotBuilt(t, "of b and a", api.ErrProllyForm, api.Pair{Key: "b", Val: "1"}, api.Pair{Key: "a", Val: "2"})
}

// P12.1: maps of each number of pairs at which something may change.
func TestBuildOfSizesAtEdges(t *testing.T) {
	r := rand.New(rand.NewSource(1))
	for _, n := range sizesAtEdges {
		wantBuilt(t, "numbered", numbered(n)...)
		wantBuilt(t, "drawn", drawnPairs(r, n)...)
	}
	for n := range 200 {
		wantBuilt(t, "few", numbered(n)...)
	}
	wantBuilt(t, "nil", []api.Pair(nil)...)
	wantBuilt(t, "empty", []api.Pair{}...)
}

// P12.1: more pairs than a map can have, whether they are right besides or not.
func TestBuildOfTooMany(t *testing.T) {
	for _, n := range []int{4097, 4098, 5000, 70000} {
		wantNotBuilt(t, "too many", api.ErrProllyMany, numbered(n)...)
		wantNotBuilt(t, "too many, all the same", api.ErrProllyMany, make([]api.Pair, n)...)
		pairs := numbered(n)
		pairs[0].Key = ""
		wantNotBuilt(t, "too many, one without a key", api.ErrProllyMany, pairs...)
		pairs = numbered(n)
		slices.Reverse(pairs)
		wantNotBuilt(t, "too many, falling", api.ErrProllyMany, pairs...)
		pairs[n-1].Val = repeated('v', 129)
		wantNotBuilt(t, "too many, a long value", api.ErrProllyMany, pairs...)
	}
	wantNotBuilt(t, "just as many, all the same", api.ErrProllyForm, make([]api.Pair, 4096)...)
	pairs := numbered(4096)
	pairs[4095].Key = pairs[4094].Key
	wantNotBuilt(t, "just as many, the last one the same", api.ErrProllyForm, pairs...)
}

// P12.1: how long keys and values may be, at each place.
func TestBuildOfLengths(t *testing.T) {
	for _, n := range []int{1, 2, 63, 64} {
		wantBuilt(t, "a key's length", api.Pair{Key: repeated('k', n), Val: "v"})
	}
	for _, n := range []int{0, 1, 127, 128} {
		wantBuilt(t, "a value's length", api.Pair{Key: "k", Val: repeated('v', n)})
	}
	for _, wrong := range []api.Pair{
		{}, {Val: "v"}, {Val: repeated('v', 129)}, {Key: repeated('k', 65), Val: "v"}, {Key: repeated('k', 66)}, {Key: repeated('k', 1000)}, {Key: repeated('k', 65), Val: repeated('v', 129)},
		{Key: "k", Val: repeated('v', 129)}, {Key: "k", Val: repeated('v', 130)}, {Key: repeated('k', 64), Val: repeated('v', 100000)},
	} {
		wantNotBuilt(t, "alone", api.ErrProllyForm, wrong)
		wantNotBuilt(t, "first", api.ErrProllyForm, wrong, api.Pair{Key: "x"}, api.Pair{Key: "z"})
		wantNotBuilt(t, "within", api.ErrProllyForm, api.Pair{Key: "a"}, wrong, api.Pair{Key: "z"})
		wantNotBuilt(t, "last", api.ErrProllyForm, api.Pair{Key: "a"}, api.Pair{Key: "b"}, wrong)
	}
	for i := range 100 {
		pairs := numbered(100)
		pairs[i].Val = repeated('v', 129)
		wantNotBuilt(t, "a long value", api.ErrProllyForm, pairs...)
		pairs[i].Val = repeated('v', 128)
		wantBuilt(t, "a value that is just short enough", pairs...)
	}
}

// P12.1: the greatest map that there is: its objects are as large as they can be.
func TestBuildOfTheLongest(t *testing.T) {
	var pairs []api.Pair
	for i := range 4096 {
		key := fmt.Sprintf("%064d", i)
		pairs = append(pairs, api.Pair{Key: key, Val: repeated(byte(i), 128)})
	}
	wantBuilt(t, "the longest", pairs...)
	s, root := built(t, pairs...)
	wantListed(t, "the longest", s, root, "", "")
}

// P12.1: keys rise strictly, bytewise.
func TestBuildOfOrders(t *testing.T) {
	for _, rising := range [][]string{
		{"a", "b"}, {"a", "aa"}, {"a", "a\x00"}, {"\x00", "\x00\x00"}, {"\x7f", "\x80"}, {"\x80", "\xff"}, {"z", "\xc3\xa4"}, {"\xef\xbf\xbd", "\xff"}, {"Z", "a"}, {"10", "9"}, {"\xff", "\xff\x00"},
		{repeated('k', 63), repeated('k', 64)}, {"a-", "a/"}, {"a", "a/b", "ab"},
	} {
		wantBuilt(t, "rising", pairsOf(rising...)...)
		slices.Reverse(rising)
		wantNotBuilt(t, "falling", api.ErrProllyForm, pairsOf(rising...)...)
		wantNotBuilt(t, "the same", api.ErrProllyForm, pairsOf(rising[0], rising[0])...)
	}
	for _, n := range []int{2, 63, 64, 65, 1000, 4096} {
		for _, at := range []int{1, n / 2, n - 1} {
			pairs := numbered(n)
			pairs[at].Key = pairs[at-1].Key
			wantNotBuilt(t, "a key twice", api.ErrProllyForm, pairs...)
			pairs = numbered(n)
			pairs[at], pairs[at-1] = pairs[at-1], pairs[at]
			wantNotBuilt(t, "two keys in each other's place", api.ErrProllyForm, pairs...)
		}
	}
	wantNotBuilt(t, "the same pair", api.ErrProllyForm, api.Pair{Key: "a", Val: "1"}, api.Pair{Key: "a", Val: "1"})
	wantNotBuilt(t, "a key with two values", api.ErrProllyForm, api.Pair{Key: "a", Val: "1"}, api.Pair{Key: "a", Val: "2"})
}

// P12.1: where leaves end: behind a key whose sum says so, behind 64 pairs, behind the last one.
func TestWhereLeavesEnd(t *testing.T) {
	quiet := func(n int) string { return strings.Repeat("q", n) }
	for _, c := range []struct {
		signs string
		want  []int
	}{
		{"q", []int{1}}, {"E", []int{1}}, {"qq", []int{2}}, {"qE", []int{2}},
		{"Eq", []int{1, 1}}, {"EE", []int{1, 1}}, {"qEqq", []int{2, 2}}, {"qqEqE", []int{3, 2}}, {"EqEqq", []int{1, 2, 2}},
		{quiet(63), []int{63}}, {quiet(64), []int{64}}, {quiet(65), []int{64, 1}}, {quiet(66), []int{64, 2}}, {quiet(128), []int{64, 64}}, {quiet(129), []int{64, 64, 1}},
		{quiet(62) + "E" + quiet(64), []int{63, 64}},
		{quiet(63) + "E" + quiet(64), []int{64, 64}},
		{quiet(63) + "EE" + quiet(3), []int{64, 1, 3}},
		{quiet(64) + "E" + quiet(3), []int{64, 1, 3}},
		{quiet(65) + "E" + quiet(65), []int{64, 2, 64, 1}},
		{quiet(64) + quiet(63) + "E", []int{64, 64}},
	} {
		_, objs, _ := prolly.Build(rowOfKeys(c.signs)...)
		if got := shapeOf(objs)[0]; !slices.Equal(got, c.want) {
			t.Errorf("%s: leaves of %d; want %d", c.signs, got, c.want)
		}
		wantBuilt(t, c.signs, rowOfKeys(c.signs)...)
	}
}

// P12.1: a leaf's end hangs on its keys' last byte alone, not on the others, nor on values.
func TestLeavesEndByTheLastByte(t *testing.T) {
	loudElsewhere := keyLike("a", []int{1, 2}, []int{0})
	loudHere := keyLike("a", []int{0}, []int{1, 2})
	wantShape(t, "other bytes", pairsOf(loudElsewhere, "b"), []int{2})
	wantShape(t, "the last byte", pairsOf(loudHere, "b"), []int{1, 1}, []int{2})
	loudVal := keyLike("v", []int{0}, nil)
	quiet := keyLike("a", nil, []int{0})
	wantShape(t, "a value", []api.Pair{{Key: quiet, Val: loudVal}, {Key: "b", Val: loudVal}}, []int{2})
	for b := range 256 { // each byte at the sum's end
		key := ""
		for n := 0; key == ""; n++ {
			if k := fmt.Sprint("a", n); sumOf(k)[31] == byte(b) {
				key = k
			}
		}
		_, objs, _ := prolly.Build(pairsOf(key, "b")...)
		if ends := len(objs) > 1; ends != (b%16 == 0) {
			t.Errorf("a sum that ends with %02x: %d objects", b, len(objs))
		}
	}
}

// P12.1: where groups end: behind the second node or a later one whose last key's byte of that level says so, behind 64 nodes, behind the last one.
func TestWhereGroupsEnd(t *testing.T) {
	quiet := func(n int) string { return strings.Repeat("q", n) }
	for _, c := range []struct {
		signs string
		want  [][]int // of the levels from 1 on
	}{
		{"q", nil}, {"1", nil},
		{"qq", [][]int{{2}}}, {"11", [][]int{{2}}}, {"1q", [][]int{{2}}},
		{"q1q", [][]int{{2, 1}, {2}}}, // a group of one node at the end of its level
		{"1qq", [][]int{{3}}},         // one node alone ends no group
		{"11q", [][]int{{2, 1}, {2}}},
		{"qq1qq", [][]int{{3, 2}, {2}}},
		{"q11q", [][]int{{2, 2}, {2}}},     // the third one is the first of its group
		{"q111q", [][]int{{2, 2, 1}, {3}}}, // and the fourth one ends it
		{"q2q", [][]int{{3}}},              // the byte of another level
		{"q3q4q0q", [][]int{{7}}},
		{quiet(63), [][]int{{63}}}, {quiet(64), [][]int{{64}}}, {quiet(65), [][]int{{64, 1}, {2}}}, {quiet(128), [][]int{{64, 64}, {2}}}, {quiet(129), [][]int{{64, 64, 1}, {3}}},
		{quiet(62) + "1" + quiet(64), [][]int{{63, 64}, {2}}},
		{quiet(63) + "1" + quiet(64), [][]int{{64, 64}, {2}}},
		{quiet(64) + "1" + quiet(64), [][]int{{64, 64, 1}, {3}}},
		{quiet(64) + "11" + quiet(3), [][]int{{64, 2, 3}, {3}}},
	} {
		pairs := rowOfLeaves(c.signs)
		want := append([][]int{times(len(pairs), 1)}, c.want...)
		wantShape(t, c.signs, pairs, want...)
	}
}

// P12.1: groups of the second and the third level end by their own byte, behind two nodes at least.
func TestWhereHigherGroupsEnd(t *testing.T) {
	key := func(i int, loud []int, quiet []int) string { return keyLike(fmt.Sprintf("%04d", i), loud, quiet) }
	// Each level-1 node is of two leaves; signs say of each which higher levels' nodes its last key ends.
	row := func(ends ...[]int) []api.Pair {
		var keys []string
		for i, levels := range ends {
			quiet := slices.DeleteFunc([]int{2, 3, 4}, func(l int) bool { return slices.Contains(levels, l) })
			keys = append(keys, key(2*i, []int{0}, nil), key(2*i+1, append([]int{0, 1}, levels...), quiet))
		}
		return pairsOf(keys...)
	}
	none := []int{}
	wantShape(t, "two", row(none, none), times(4, 1), times(2, 2), []int{2})
	wantShape(t, "none", row(none, none, none), times(6, 1), times(3, 2), []int{3})
	wantShape(t, "the second", row(none, []int{2}, none), times(6, 1), times(3, 2), []int{2, 1}, []int{2})
	wantShape(t, "the first", row([]int{2}, none, none), times(6, 1), times(3, 2), []int{3})
	wantShape(t, "another level's", row(none, []int{3}, []int{4}, none), times(8, 1), times(4, 2), []int{4})
	wantShape(t, "four", row(none, []int{2}, none, []int{2}, none, []int{2}, none), times(14, 1), times(7, 2), []int{2, 2, 2, 1}, []int{4})
	wantShape(t, "three levels", row(none, []int{2}, none, []int{2, 3}, none, []int{2}), times(12, 1), times(6, 2), times(3, 2), []int{2, 1}, []int{2})
	var many [][]int
	for range 65 {
		many = append(many, none)
	}
	wantShape(t, "64 of the second level", row(many[:64]...), times(128, 1), times(64, 2), []int{64})
	wantShape(t, "65 of the second level", row(many...), times(130, 1), times(65, 2), []int{64, 1}, []int{2})
}

// P12.1: as many levels as can be. (4096 pairs can have 12; but to find a key that ends nodes of each level up to 11, some 2^48 had to be tried.)
func TestManyLevels(t *testing.T) {
	pairs := halving(1<<8 + 1)
	for levels := 1; levels <= 9; levels++ {
		n := 1 << (levels - 1)
		var want [][]int
		for size := n; size >= 1; size /= 2 {
			want = append(want, times(size, 2))
		}
		want[0] = times(n, 1)
		wantShape(t, "halves", pairs[:n], want...)
		for i := range want {
			want[i] = append(want[i], 1)
		}
		wantShape(t, "halves, and one more", pairs[:n+1], append(want, []int{2})...)
		s, root := built(t, pairs[:n+1]...)
		if top, _ := takePlainNode(s.has[root]); top.Level != levels {
			t.Errorf("%d pairs: a root of Level %d; want %d", n+1, top.Level, levels)
		}
	}
	s, root := built(t, pairs...)
	wantListed(t, "many levels", s, root, "", "")
	for _, p := range pairs {
		wantFound(t, "many levels", s, root, p.Key)
	}
}

// P12.1: 4096 leaves of one pair, 64 of 64.
func TestBuildOfMostAndFewestLeaves(t *testing.T) {
	most, fewest := rowOfKeys(strings.Repeat("E", 4096)), rowOfKeys(strings.Repeat("q", 4096))
	wantBuilt(t, "most leaves", most...)
	_, objs, _ := prolly.Build(most...)
	if got := shapeOf(objs)[0]; !slices.Equal(got, times(4096, 1)) {
		t.Errorf("%d leaves", len(got))
	}
	wantBuilt(t, "fewest leaves", fewest...)
	_, objs, _ = prolly.Build(fewest...)
	if got := shapeOf(objs)[0]; !slices.Equal(got, times(64, 64)) {
		t.Errorf("%d leaves", len(got))
	}
}

// P12.1: the leaves in order, then level by level the branches; each id once; the root is the last one.
func TestOrderOfObjects(t *testing.T) {
	for _, pairs := range [][]api.Pair{numbered(5000)[:4096], halving(100), rowOfLeaves(strings.Repeat("qq1q", 40))} {
		root, objs, _ := prolly.Build(pairs...)
		seen := map[string]bool{}
		level, last := 0, ""
		for _, o := range objs {
			n, ok := takePlainNode(o.Bytes)
			if !ok || o.Id != sumOf(o.Bytes) || seen[o.Id] || len(o.Bytes) > 32768 {
				t.Errorf("an object that is none, or comes twice: %x", o.Id)
			}
			seen[o.Id] = true
			if n.Level == level+1 {
				level, last = level+1, ""
			}
			if n.Level != level || n.last <= last {
				t.Errorf("a node of level %d with the last key %q stands behind one of level %d with %q", n.Level, n.last, level, last)
			}
			last = n.last
		}
		if objs[len(objs)-1].Id != root {
			t.Error("the root is not the last object")
		}
	}
}
