package blob_test

import (
	"math/rand"
	"slices"
	"strings"
	"testing"

	"tussock/api"
	"tussock/blob"
	"tussock/gear"
)

// shapeOf is how many kids each fan has, level by level, in the order in which they are told.
func shapeOf(objs []api.Object) [][]int {
	var out [][]int
	for _, o := range objs {
		f, ok := takePlainFan(o.Bytes)
		if !ok {
			continue
		}
		for len(out) < f.Level {
			out = append(out, nil)
		}
		out[f.Level-1] = append(out[f.Level-1], len(f.Kids))
	}
	return out
}

func wantShape(t *testing.T, what, data string, want ...[]int) {
	t.Helper()
	_, objs, _ := blob.Build(data)
	if got := shapeOf(objs); !slices.EqualFunc(got, want, slices.Equal[[]int]) {
		t.Errorf("%s: fans of %d kids; want %d", what, got, want)
	}
	wantBuilt(t, what, data)
}

// quarry has chunks that end where they do whatever comes behind, so that files of such ones are cut just so. A loud one's id ends a group.
type quarry struct{ loud, quiet []string }

func newQuarry(seed int64) *quarry {
	s := drawn(rand.New(rand.NewSource(seed)), 1<<20)
	q := &quarry{}
	from := 0
	ends := gear.Cuts(s)
	for _, end := range ends[:len(ends)-1] {
		q.put(s[from:end])
		from = end
	}
	return q
}

func (q *quarry) put(chunk string) {
	if isLoud(sumOf(plainChunk(chunk))) {
		q.loud = append(q.loud, chunk)
	} else {
		q.quiet = append(q.quiet, chunk)
	}
}

// file takes chunks away, one for each sign: 8 for a loud one, all others for a quiet one.
func (q *quarry) file(pattern string) string {
	var b strings.Builder
	for _, c := range pattern {
		from := &q.quiet
		if c == '8' {
			from = &q.loud
		}
		b.WriteString((*from)[0])
		*from = (*from)[1:]
	}
	return b.String()
}

// pair is two chunks over which stands one fan, which is loud itself, or not. The second one is loud, so that the group ends.
func (q *quarry) pair(loud bool) string {
	for range 1000 {
		a, b := q.file("."), q.file("8")
		f := plainFan(api.Fan{Level: 1, Kids: []api.Part{
			{Id: sumOf(plainChunk(a)), Size: int64(len(a))}, {Id: sumOf(plainChunk(b)), Size: int64(len(b))}}})
		if isLoud(sumOf(f)) == loud {
			return a + b
		}
		q.quiet, q.loud = append(q.quiet[1:], a, q.quiet[0]), append(q.loud, b)
	}
	panic("no such pair")
}

// pairs is a pair for each sign.
func (q *quarry) pairs(pattern string) string {
	var b strings.Builder
	for _, c := range pattern {
		b.WriteString(q.pair(c == '8'))
	}
	return b.String()
}

// P10.1: the chapter's examples: a file without bytes, one of 1000 that count up.
func TestExamplesOfBuild(t *testing.T) {
	root, objs, e := blob.Build("")
	if e != api.OK || root != (api.Part{Id: sumOf("C")}) || !slices.Equal(objs, []api.Object{{Id: sumOf("\x43"), Bytes: "\x43"}}) {
		t.Error(root, objs, e)
	}
	s := countUp(1000)
	chunks := []string{s[:321], s[321:583], s[583:857], s[857:]}
	root, objs, e = blob.Build(s)
	if e != api.OK || root.Size != 1000 || hexOf(root.Id) != "08c3b6e3f77a850c7e318b22db20a4a7784d4804b1bb5dc917623ce1048e81f9" || len(objs) != 7 {
		t.Error(root, len(objs), e)
	}
	for i, c := range chunks {
		if objs[i] != (api.Object{Id: sumOf("C" + c), Bytes: "C" + c}) {
			t.Errorf("the object %d: %q", i, head(objs[i].Bytes))
		}
	}
	wantShape(t, "the bytes that count up", s, []int{3, 1}, []int{2})
}

// P10.1: files whose roots were worked out apart, and how many objects they have.
func TestRootsOfSomeFiles(t *testing.T) {
	for _, x := range []struct {
		data, root string
		many       int
	}{
		{"", "6b23c0d5f35d1b11f9b683f0b0a617355deb11277d91ae091d399c655b87940d", 1},
		{"a", "d324ce7a31685a38d6c5f56ff2a7f4bdb1c5a1da6f0136ac496700720f96cdba", 1},
		{repeated(0, 5000), "f927681884d0cf7eb3452393664a2886f674570722d135d31f1234bf2b975b5c", 3},
		{countUp(20000), "680f5c910b8577dd65d5b1b165a4ced04daeb2e8873bbe79891950f8f668fd8a", 15},
		{scattered(6000), "5ec239351e3c682c2d6c4e48a5f8921da41da36bd286a2ca16a9b47bcd7cdffa", 26},
		{repeated('a', 262144), "44baed1e5182d132cffec419965be25a16bd504873e9b6a2843423d92aa8251e", 3},
		{scattered(262144), "b3d31036714953a1d953fd897ca4262a04c698597195e0676b0ce4224305db30", 130},
	} {
		root, objs, e := blob.Build(x.data)
		if e != api.OK || hexOf(root.Id) != x.root || root.Size != int64(len(x.data)) || len(objs) != x.many {
			t.Errorf("of %d bytes %q: %d, %x, %d objects", len(x.data), head(x.data), e, root, len(objs))
		}
	}
}

// P10.1: files of all kinds, at the edges of sizes.
func TestBuildOfManyFiles(t *testing.T) {
	for _, s := range manyFiles() {
		wantBuilt(t, head(s), s)
	}
}

// P10.1: of 64 bytes or fewer there is but one chunk; so of 1024 of one byte whose sum ends none; with one more there are two, and a fan.
func TestFilesOfOneChunkAndOfTwo(t *testing.T) {
	for _, n := range []int{0, 1, 63, 64, 65, 66, 1023, 1024} {
		s := repeated('a', n)
		root, objs, e := blob.Build(s)
		want := api.Object{Id: sumOf("C" + s), Bytes: "C" + s}
		if e != api.OK || root != (api.Part{Id: want.Id, Size: int64(n)}) || !slices.Equal(objs, []api.Object{want}) {
			t.Errorf("%d bytes: %d, %x, %d objects", n, e, root, len(objs))
		}
	}
	wantShape(t, "1025 bytes", repeated('a', 1025), []int{2})
	wantShape(t, "2048 bytes", repeated('a', 2048), []int{2})
	if _, objs, _ := blob.Build(repeated('a', 2048)); len(objs) != 2 {
		t.Errorf("one chunk twice: %d objects", len(objs))
	}
}

// P10.1: 262144 bytes are a file, one more are none.
func TestLongestFiles(t *testing.T) {
	r := rand.New(rand.NewSource(2))
	for _, s := range []string{repeated('a', 262145), repeated(37, 262145), countUp(262145), scattered(262145), drawn(r, 262145)} {
		wantBuilt(t, "of 262144 bytes", s[:262144])
		root, objs, e := blob.Build(s)
		wantNoFile(t, "262145 bytes", root, objs, e, api.ErrBlobLong)
	}
	for _, n := range []int{262146, 300000, 1 << 24} {
		root, objs, e := blob.Build(repeated('a', n))
		wantNoFile(t, "many bytes", root, objs, e, api.ErrBlobLong)
	}
}

// P10.1: of chunks and fans that come again each id is told once, where it comes first.
func TestEachIdOnce(t *testing.T) {
	for c := range 256 {
		s := repeated(byte(c), 40000)
		wantBuilt(t, "of one byte", s)
		_, objs, _ := blob.Build(s)
		told := map[string]bool{}
		for _, o := range objs {
			if told[o.Id] || o.Id != sumOf(o.Bytes) {
				t.Errorf("of the byte %d: %x again, or not its own", c, o.Id)
			}
			told[o.Id] = true
		}
	}
	q := newQuarry(3)
	a, b, c := q.file("."), q.file("."), q.file("8")
	_, objs, _ := blob.Build(a + b + a + c + b + c)
	want := []string{plainChunk(a), plainChunk(b), plainChunk(c)}
	for i, b := range want {
		if objs[i].Bytes != b {
			t.Errorf("the object %d: %q", i, head(objs[i].Bytes))
		}
	}
	wantShape(t, "a b a c, b c", a+b+a+c+b+c, []int{4, 2}, []int{2})

	// Two fans of one id: the second one is not told, but is a kid as the first one is.
	_, objs, _ = blob.Build(a + c + a + c)
	one := plainFan(api.Fan{Level: 1, Kids: []api.Part{part(a), part(c)}})
	both := plainFan(api.Fan{Level: 2, Kids: []api.Part{{Id: sumOf(one), Size: int64(len(a + c))}, {Id: sumOf(one), Size: int64(len(a + c))}}})
	if len(objs) != 4 || objs[2].Bytes != one || objs[3].Bytes != both {
		t.Errorf("a c, a c: %d objects", len(objs))
	}
}

// part is a chunk's.
func part(chunk string) api.Part {
	return api.Part{Id: sumOf(plainChunk(chunk)), Size: int64(len(chunk))}
}

// P10.1: where groups of chunks end: behind a loud one, but not behind the first one; with the 32nd; with the last one.
func TestGroupsOfChunks(t *testing.T) {
	quiet := strings.Repeat(".", 100)
	for _, x := range []struct {
		pattern string
		want    []int
	}{
		{".", nil}, {"8", nil},
		{"..", []int{2}}, {"8.", []int{2}}, {".8", []int{2}}, {"88", []int{2}},
		{"...", []int{3}}, {"8..", []int{3}}, {"..8", []int{3}}, {"8.8", []int{3}},
		{".8.", []int{2, 1}}, {"88.", []int{2, 1}}, {".88", []int{2, 1}}, {"888", []int{2, 1}},
		{"8888", []int{2, 2}}, {"8..8", []int{4}}, {".8..", []int{2, 2}}, {".88.", []int{2, 2}}, {".88.8", []int{2, 3}},
		{quiet[:31], []int{31}}, {quiet[:32], []int{32}}, {quiet[:33], []int{32, 1}}, {quiet[:34], []int{32, 2}},
		{quiet[:30] + "8", []int{31}}, {quiet[:31] + "8", []int{32}}, {quiet[:32] + "8", []int{32, 1}},
		{quiet[:30] + "8.", []int{31, 1}}, {quiet[:31] + "8.", []int{32, 1}}, {quiet[:32] + "8.", []int{32, 2}}, {quiet[:32] + "8..", []int{32, 3}},
		{"8" + quiet[:31], []int{32}}, {"8" + quiet[:32], []int{32, 1}}, {"8" + quiet[:30] + "8.", []int{32, 1}},
		{quiet[:64], []int{32, 32}}, {quiet[:65], []int{32, 32, 1}}, {".8" + quiet[:33] + "8", []int{2, 32, 2}},
	} {
		data := newQuarry(4).file(x.pattern)
		_, objs, _ := blob.Build(data)
		var got []int
		if shape := shapeOf(objs); len(shape) > 0 {
			got = shape[0]
		}
		if !slices.Equal(got, x.want) {
			t.Errorf("%s: groups of %d; want %d", x.pattern, got, x.want)
		}
		wantBuilt(t, x.pattern, data)
	}
}

// P10.1: fans are put into groups as chunks are; a fan may have one kid.
func TestGroupsOfFans(t *testing.T) {
	quiet := strings.Repeat(".", 100)
	q := newQuarry(5)
	for _, x := range []struct {
		pattern string
		want    []int
	}{
		{".", nil}, {"8", nil}, {"..", []int{2}}, {"8.", []int{2}}, {".8", []int{2}}, {"8..", []int{3}}, {"..8", []int{3}},
		{".8.", []int{2, 1}}, {"888", []int{2, 1}}, {".8.8.", []int{2, 2, 1}}, {"8.8.8", []int{3, 2}},
		{quiet[:31], []int{31}}, {quiet[:32], []int{32}}, {quiet[:33], []int{32, 1}}, {quiet[:31] + "8.", []int{32, 1}}, {quiet[:30] + "8.", []int{31, 1}},
	} {
		data := q.pairs(x.pattern)
		_, objs, _ := blob.Build(data)
		shape := shapeOf(objs)
		var got []int
		if len(shape) > 1 {
			got = shape[1]
		}
		if !slices.Equal(got, x.want) || len(shape[0]) != len(x.pattern) {
			t.Errorf("%s: groups of %d; want %d", x.pattern, got, x.want)
		}
		wantBuilt(t, x.pattern, data)
		q = newQuarry(int64(len(data)))
	}
}

// P10.1: first the chunks, then level by level the fans; the root is told last, unless it is the only one.
func TestOrderOfObjects(t *testing.T) {
	for _, s := range append(manyFiles(), scattered(262144)) {
		root, objs, _ := blob.Build(s)
		level := 0
		for i, o := range objs {
			f, ok := takePlainFan(o.Bytes)
			if ok != (o.Bytes[0] == 'F') || f.Level < level || f.Level > level+1 {
				t.Errorf("of %d bytes: the object %d is of level %d, behind %d", len(s), i, f.Level, level)
			}
			level = f.Level
		}
		if objs[len(objs)-1].Id != root.Id {
			t.Errorf("of %d bytes: the root is not the last one", len(s))
		}
	}
}
