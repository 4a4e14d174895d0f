package object_test

import (
	"crypto/sha256"
	"math"
	"slices"
	"strconv"
	"strings"
	"testing"

	"tussock/api"
	"tussock/hash"
	"tussock/object"
)

// P8.1: Of's bytes are the parts', one behind the other, and its Id is their sum, however they are cut.
func TestOf(t *testing.T) {
	for want, cuts := range map[string][][]string{
		"":        {{}, nil, {""}, {"", "", ""}},
		"a":       {{"a"}, {"", "a"}, {"a", ""}, {"", "a", ""}},
		"C\x00":   {{"C", "\x00"}, {"C\x00"}},
		"abc":     {{"abc"}, {"a", "bc"}, {"ab", "c"}, {"a", "b", "c"}, {"", "ab", "", "c"}},
		"no \xFF": {{"no ", "\xFF"}},
		sized(99999): {{sized(99999)}, {sized(9), sized(99990)}, {sized(50000), sized(49999)},
			strings.Split(sized(99999), "")},
	} {
		sum := sha256.Sum256([]byte(want))
		for _, parts := range cuts {
			if o := object.Of(parts...); o.Bytes != want || o.Id != string(sum[:]) || o.Id != hash.Sum(parts...) {
				t.Errorf("Of(%d parts): %q, %X; want %q", len(parts), head(o.Bytes), o.Id, head(want))
			}
		}
	}
}

// P8.1: the chapter's examples.
func TestMakeExamples(t *testing.T) {
	for want, x := range map[string]thing{
		"Cabc":                       chunk("abc"),
		"L\x00":                      leaf{},
		"L\x02\x02k\x02v":            leaf{{Key: "k", Val: "v"}},
		"F\x02\x02" + id('a') + "\n": api.Fan{Level: 1, Kids: []api.Part{{Id: id('a'), Size: 5}}},
	} {
		if o, e := makeThing(x); e != api.OK || o.Bytes != want || o.Id != hash.Sum(want) {
			t.Errorf("%v: %d, % X; want % X", x, e, o.Bytes, want)
		}
	}
	if o, e := object.Leaf(api.Pair{Key: "k", Val: "v"}, api.Pair{Key: "k", Val: "w"}); e != api.ErrObjectForm || o != (api.Object{}) {
		t.Error(o, e)
	}
}

// P8.1: the bytes of a branch and of a commit, written out by the chapter's table.
func TestMakeWrittenOut(t *testing.T) {
	for want, x := range map[string]thing{
		"B\x28\x04\x02a" + id(1) + "\x02\x04ab" + id(2) + "\x80\x01": api.Branch{Level: 20, Kids: []api.Link{{Last: "a", Id: id(1), Many: 1}, {Last: "ab", Id: id(2), Many: 64}}},
		"K" + id(9) + "\x00\x06ann\x0E\x0Afirst":                     api.Commit{Tree: id(9), Who: "ann", Time: 7, Note: "first"},
		"K" + id(9) + "\x04" + id(8) + id(7) + "\x00\x00\x00":        api.Commit{Tree: id(9), Parents: []string{id(8), id(7)}},
	} {
		if o, e := makeThing(x); e != api.OK || o.Bytes != want {
			t.Errorf("%v: %d, % X; want % X", x, e, o.Bytes, want)
		}
	}
}

// P8.1, P8.2: chunks of 0 to just more than 1024 bytes, and of far more.
func TestChunkSizes(t *testing.T) {
	for _, n := range []int{0, 1, 63, 64, 1023, 1024} {
		wantRight(t, "a chunk", chunk(sized(n)))
	}
	for _, n := range []int{1025, 1026, 2048, 32768, 1 << 20} {
		wantWrong(t, "a chunk", chunk(sized(n)))
	}
	for c := range 256 {
		wantRight(t, "a chunk of one byte", chunk([]byte{byte(c)}))
	}
}

// levels are those at the edges: whether they are right.
var levels = map[int]bool{math.MinInt: false, -21: false, -1: false, 0: false, 1: true, 2: true, 19: true, 20: true, 21: false, 84: false, math.MaxInt: false}

// fan is a right one of so many kids, branch likewise; each kid has another id.
func fan(level, kids int) api.Fan {
	f := api.Fan{Level: level}
	for i := range kids {
		f.Kids = append(f.Kids, api.Part{Id: id(byte(i)), Size: int64(i + 1)})
	}
	return f
}

func branch(level, kids int) api.Branch {
	b := api.Branch{Level: level}
	for i := range kids {
		b.Kids = append(b.Kids, api.Link{Last: "k" + string([]byte{byte(i)}), Id: id(byte(i)), Many: int64(i%7 + 1)})
	}
	return b
}

func pairs(n int) leaf {
	var l leaf
	for i := range n {
		l = append(l, api.Pair{Key: "k" + string([]byte{byte(i)}), Val: sized(i % 129)})
	}
	return l
}

// P8.1, P8.2: Levels at their edges, of fans and branches.
func TestLevels(t *testing.T) {
	for level, right := range levels {
		for _, x := range []thing{fan(level, 3), branch(level, 3)} {
			wantIf(t, right, "Level "+strconv.Itoa(level), x)
		}
	}
}

func wantIf(t *testing.T, right bool, what string, x thing) {
	t.Helper()
	if right {
		wantRight(t, what, x)
	} else {
		wantWrong(t, what, x)
	}
}

// P8.1, P8.2: how many Kids, or pairs, there are.
func TestHowMany(t *testing.T) {
	for n := range 140 {
		what := strconv.Itoa(n)
		wantIf(t, n >= 1 && n <= 32, what+" Kids of a fan", fan(1, n))
		wantIf(t, n >= 1 && n <= 64, what+" Kids of a branch", branch(1, n))
		wantIf(t, n <= 64, what+" pairs", pairs(n))
	}
	wantWrong(t, "a fan without anything", api.Fan{})
	wantWrong(t, "a branch without anything", api.Branch{})
	wantWrong(t, "a commit without anything", api.Commit{})
	wantRight(t, "a leaf without anything", leaf{})
	wantRight(t, "a leaf without anything", leaf(nil))
}

// P8.1: ids of all sizes, at each place where an id stands.
func TestIdSizes(t *testing.T) {
	for _, n := range []int{0, 1, 31, 32, 33, 64, 1000} {
		what := "an id of " + strconv.Itoa(n)
		for at := range 3 {
			f, b := fan(1, 3), branch(1, 3)
			f.Kids[at].Id, b.Kids[at].Id = sized(n), sized(n)
			c := api.Commit{Tree: id(1), Parents: []string{id(2), id(3), id(4)}}
			c.Parents[at] = sized(n)
			for _, x := range []thing{f, b, c} {
				wantIf(t, n == 32, what, x)
			}
		}
		wantIf(t, n == 32, what, api.Commit{Tree: sized(n), Parents: []string{id(2)}})
		wantIf(t, n == 32, what, api.Commit{Tree: sized(n)})
	}
}

// numbers are lists of Sizes, or Manys, that are right as long as the most that they may come to is most.
func numbers(most int64) (right, wrong [][]int64) {
	const top = math.MaxInt64
	right = [][]int64{{1}, {1, 1}, {most}, {most - 1, 1}, {1, most - 1}, {1, most - 2, 1}, {most / 2, most / 2}}
	wrong = [][]int64{
		{0}, {-1}, {math.MinInt64}, {1, 0}, {0, 1}, {1, -1, 1}, {most, -1}, {-1, most}, {most + 1, -1}, {most, 0},
		{most + 1}, {most, 1}, {1, most}, {most - 1, 1, 1}, {1, 1, most - 1}, {most/2 + 1, most / 2}, {most, most},
		{top}, {top, top}, {1, top}, {top, 1}, {top, top, 2}, {top, top, 3}, {top, top, most}, {top, math.MinInt64, 2},
		{1 << 62, 1 << 62, 1 << 62, 1 << 62, 1}, {1 << 62, 1 << 62, 1 << 62, 1 << 62},
	}
	return right, wrong
}

func fanOf(sizes []int64) api.Fan {
	f := api.Fan{Level: 1}
	for _, n := range sizes {
		f.Kids = append(f.Kids, api.Part{Id: id(1), Size: n})
	}
	return f
}

func branchOf(manys []int64) api.Branch {
	b := branch(1, len(manys))
	for i, n := range manys {
		b.Kids[i].Many = n
	}
	return b
}

// P8.1, P8.2: Sizes of a fan: each of them, and what they come to.
func TestSizes(t *testing.T) {
	right, wrong := numbers(262144)
	for _, sizes := range right {
		wantRight(t, "Sizes", fanOf(sizes))
	}
	for _, sizes := range wrong {
		wantWrong(t, "Sizes", fanOf(sizes))
	}
	wantRight(t, "32 Sizes of 8192", fanOf(slices.Repeat([]int64{8192}, 32)))
	wantWrong(t, "31 Sizes of 8192, one of 8193", fanOf(append(slices.Repeat([]int64{8192}, 31), 8193)))
	wantWrong(t, "a Size of 8193, 31 of 8192", fanOf(append([]int64{8193}, slices.Repeat([]int64{8192}, 31)...)))
}

// P8.1, P8.2: Manys of a branch: each of them, and what they come to.
func TestManys(t *testing.T) {
	right, wrong := numbers(4096)
	for _, manys := range right {
		wantRight(t, "Manys", branchOf(manys))
	}
	for _, manys := range wrong {
		wantWrong(t, "Manys", branchOf(manys))
	}
	wantRight(t, "64 Manys of 64", branchOf(slices.Repeat([]int64{64}, 64)))
	wantWrong(t, "63 Manys of 64, one of 65", branchOf(append(slices.Repeat([]int64{64}, 63), 65)))
}

// keyed has the keys, as a leaf and as a branch.
func keyed(keys ...string) []thing {
	l, b := leaf{}, api.Branch{Level: 1}
	for i, key := range keys {
		l = append(l, api.Pair{Key: key, Val: "v"})
		b.Kids = append(b.Kids, api.Link{Last: key, Id: id(byte(i)), Many: 1})
	}
	return []thing{l, b}
}

// P8.1, P8.2: keys of a leaf, Lasts of a branch: how long they are, and that they rise, bytewise.
func TestKeys(t *testing.T) {
	long := sized(64)
	for _, keys := range [][]string{
		{"a"}, {long}, {"\x00"}, {"\xFF"}, {"/"}, {"."}, {"a", "b"}, {"a", "ab"}, {"a", "a\x00"}, {"\x7F", "\x80"}, {"z", "\xC3\xA9"},
		{"\x00", "\x00\x00"}, {"\xFE\xFF", "\xFF"}, {"a", "b", "c"}, {"a", "aa", "aaa", "ab"}, {"B", "a"}, {long[:63], long}, {"10", "9"},
	} {
		for _, x := range keyed(keys...) {
			wantRight(t, "keys", x)
		}
	}
	for _, keys := range [][]string{
		{""}, {long + "s"}, {sized(128)}, {"", "a"}, {"a", ""}, {"a", "a"}, {"b", "a"}, {"ab", "a"}, {"a\x00", "a"}, {"\x80", "\x7F"}, {"\xC3\xA9", "z"},
		{"a", "b", "b"}, {"b", "a", "c"}, {"a", "c", "b"}, {"a", "b", "a"}, {"a", "a", "b"}, {"a", long + "s"}, {long + "s", "t"}, {"\xFF", "\xFE\xFF"}, {"9", "10"},
	} {
		for _, x := range keyed(keys...) {
			wantWrong(t, "keys", x)
		}
	}
}

// P8.1, P8.2: values of 0 to just more than 128 bytes.
func TestValues(t *testing.T) {
	for _, n := range []int{0, 1, 63, 64, 127, 128, 129, 130, 4096} {
		val := sized(n)
		for _, l := range []leaf{{{Key: "a", Val: val}}, {{Key: "a"}, {Key: "b", Val: val}}, {{Key: "a", Val: val}, {Key: "b"}}} {
			wantIf(t, n <= 128, "a value of "+strconv.Itoa(n), l)
		}
	}
}

// P8.1, P8.2: how many Parents there are, and which are the same.
func TestParents(t *testing.T) {
	var parents []string
	for n := range 20 {
		wantIf(t, n <= 8, strconv.Itoa(n)+" Parents", api.Commit{Tree: id(0), Parents: parents})
		parents = append(parents, id(byte(n)))
	}
	for i := range 8 {
		for j := range 8 {
			twice := slices.Clone(parents[:8])
			twice[i] = twice[j]
			wantIf(t, i == j, "two Parents that may be the same", api.Commit{Tree: id(0), Parents: twice})
		}
	}
	wantRight(t, "a Parent that is the Tree", api.Commit{Tree: id(3), Parents: []string{id(3)}})
	near := id(3)[:31] + "x"
	wantRight(t, "Parents that differ in their last byte", api.Commit{Tree: id(3), Parents: []string{id(3), near}})
}

// P8.1, P8.2: Who, Note and Time at their edges.
func TestCommitEdges(t *testing.T) {
	for n := range 200 {
		wantIf(t, n <= 64, "Who", api.Commit{Tree: id(0), Who: sized(n)})
	}
	for _, n := range []int{0, 1, 64, 65, 1023, 1024, 1025, 9999} {
		wantIf(t, n <= 1024, "Note", api.Commit{Tree: id(0), Note: sized(n)})
	}
	for _, n := range []int64{0, 1, 1 << 31, 1 << 32, 1<<62 - 1, 1 << 62} {
		wantRight(t, "Time", api.Commit{Tree: id(0), Time: n})
	}
	for _, n := range []int64{-1, -2, math.MinInt64, 1<<62 + 1, math.MaxInt64} {
		wantWrong(t, "Time", api.Commit{Tree: id(0), Time: n})
	}
	wantRight(t, "texts of all kinds", api.Commit{Tree: id(0), Who: "\x00\xFF\n/", Note: "é\x80"})
	wantRight(t, "all at their most", api.Commit{Tree: id(255), Parents: []string{id(1), id(2), id(3), id(4), id(5), id(6), id(7), id(8)}, Who: sized(64), Time: 1 << 62, Note: sized(1024)})
}

// P8.1: the greatest object of each kind has less than MaxObject bytes.
func TestGreatest(t *testing.T) {
	var l leaf
	for i := range 64 {
		l = append(l, api.Pair{Key: sized(63) + string([]byte{byte(i)}), Val: sized(128)})
	}
	wantRight(t, "the greatest leaf", l)
	b := branchOf(slices.Repeat([]int64{64}, 64))
	for i := range b.Kids {
		b.Kids[i].Last = l[i].Key
	}
	wantRight(t, "the greatest branch", b)
	for _, x := range []thing{chunk(sized(1024)), fanOf(slices.Repeat([]int64{8192}, 32)), l, b} {
		if n := len(plainBytes(x)); n > api.MaxObject {
			t.Errorf("%c has %d bytes", markOf(x), n)
		}
	}
}

// P8.1, R2: nothing stands beside ErrObjectForm, where several things are wrong, too.
func TestWrongInManyWays(t *testing.T) {
	wantWrong(t, "a fan", api.Fan{Level: -1, Kids: []api.Part{{Id: "x", Size: -1}}})
	wantWrong(t, "a leaf", leaf{{Key: "", Val: sized(200)}, {Key: sized(90)}})
	wantWrong(t, "a branch", api.Branch{Level: 99, Kids: []api.Link{{Last: "", Id: "", Many: 0}}})
	wantWrong(t, "a commit", api.Commit{Tree: "x", Parents: []string{"", ""}, Who: sized(99), Time: -1, Note: sized(2000)})
}
