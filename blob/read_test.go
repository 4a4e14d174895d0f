package blob_test

import (
	"math"
	"testing"

	"tussock/api"
	"tussock/blob"
)

// places are where a read may begin in a file of n bytes, and how many it may ask for.
func places(n int64, ends ...int64) []int64 {
	out := []int64{0, 1, n / 2, n - 1, n, n + 1, n + 1000, 1 << 40, math.MaxInt64 - n, math.MaxInt64 - 1, math.MaxInt64}
	for _, e := range ends {
		out = append(out, e-1, e, e+1)
	}
	return out
}

// errorsOfGet are of all layers, and of none.
var errorsOfGet = []api.Errno{api.ErrNil, api.ErrArg, api.ErrMissing, api.ErrDiskIO, api.ErrStoreCorrupt, api.ErrBlobLong, api.ErrBlobCorrupt, api.ErrRemoteUnavailable, 999, -1, math.MaxInt32, math.MinInt32}

// small is a tree of ten bytes: a fan of Level 2 over two of Level 1, over chunks of 3, 2, 1 and 4 bytes.
type small struct {
	*shelf
	root, left, right, abc, de, f, ghij api.Part
}

func newSmall() small {
	s := shelfOf()
	x := small{shelf: s, abc: s.layChunk("abc"), de: s.layChunk("de"), f: s.layChunk("f"), ghij: s.layChunk("ghij")}
	x.left, x.right = s.layFan(1, x.abc, x.de), s.layFan(1, x.f, x.ghij)
	x.root = s.layFan(2, x.left, x.right)
	return x
}

// P10.2: the chapter's examples.
func TestExamplesOfRead(t *testing.T) {
	data := countUp(1000)
	s, root := built(t, data)
	chunks, _ := blob.Chunks(s.get, root)
	s.asked = nil
	if got, e := blob.Read(s.get, root, 300, 50); got != data[300:350] || e != api.OK {
		t.Errorf("%d, %x", e, got)
	}
	top, _ := takePlainFan(s.has[root.Id])
	wantAsked(t, "Read of it", s, root.Id, top.Kids[0].Id, chunks[0].Id, chunks[1].Id)
	wantReadError(t, "from -1 on", s, root, -1, 5, api.ErrArg)
	s.asked = nil
	if got, e := blob.Read(s.get, root, 5000, 5); got != "" || e != api.OK {
		t.Errorf("from 5000 on: %d, %x", e, got)
	}
	wantAsked(t, "from 5000 on", s)
}

// P10.2: which bytes are read, which ids are asked, in which order.
func TestReadOfASmallTree(t *testing.T) {
	x := newSmall()
	for _, c := range []struct {
		from, n int64
		want    string
		asked   []api.Part
	}{
		{0, 0, "", nil}, {5, 0, "", nil}, {10, 0, "", nil}, {10, 1, "", nil}, {11, 1, "", nil},
		{0, 1, "a", []api.Part{x.root, x.left, x.abc}},
		{2, 1, "c", []api.Part{x.root, x.left, x.abc}},
		{2, 2, "cd", []api.Part{x.root, x.left, x.abc, x.de}},
		{3, 1, "d", []api.Part{x.root, x.left, x.de}},
		{3, 2, "de", []api.Part{x.root, x.left, x.de}},
		{4, 1, "e", []api.Part{x.root, x.left, x.de}},
		{4, 2, "ef", []api.Part{x.root, x.left, x.de, x.right, x.f}},
		{5, 1, "f", []api.Part{x.root, x.right, x.f}},
		{5, 2, "fg", []api.Part{x.root, x.right, x.f, x.ghij}},
		{6, 3, "ghi", []api.Part{x.root, x.right, x.ghij}},
		{7, 2, "hi", []api.Part{x.root, x.right, x.ghij}},
		{9, 1, "j", []api.Part{x.root, x.right, x.ghij}},
		{9, 2, "j", []api.Part{x.root, x.right, x.ghij}},
		{2, 5, "cdefg", []api.Part{x.root, x.left, x.abc, x.de, x.right, x.f, x.ghij}},
		{0, 10, "abcdefghij", []api.Part{x.root, x.left, x.abc, x.de, x.right, x.f, x.ghij}},
		{0, math.MaxInt64, "abcdefghij", []api.Part{x.root, x.left, x.abc, x.de, x.right, x.f, x.ghij}},
		{9, math.MaxInt64, "j", []api.Part{x.root, x.right, x.ghij}},
		{math.MaxInt64, math.MaxInt64, "", nil},
	} {
		x.asked = nil
		if got, e := blob.Read(x.get, x.root, c.from, c.n); got != c.want || e != api.OK {
			t.Errorf("Read(%d, %d): %d, %q; want %q", c.from, c.n, e, got, c.want)
		}
		wantAsked(t, c.want, x.shelf, idsOf(c.asked...)...)
	}
}

// P10.2: each place of small files, and each number of bytes.
func TestReadEachPiece(t *testing.T) {
	x := newSmall()
	for from := range int64(13) {
		for n := range int64(13) {
			wantRead(t, "the small tree", x.shelf, x.root, from, n)
		}
	}
	data := countUp(1000)
	s, root := built(t, data)
	for from := int64(0); from < 1010; from += 7 {
		for n := int64(0); n < 1010; n += 41 {
			wantRead(t, "the bytes that count up", s, root, from, n)
		}
	}
}

// P10.2: places and numbers at the edges, in files of all kinds.
func TestReadAtTheEdges(t *testing.T) {
	files := append(manyFiles(), repeated('a', 262144), scattered(262144))
	for _, data := range files {
		s, root := built(t, data)
		size := root.Size
		for _, from := range places(size, 64, 321, 1024) {
			for _, n := range places(size) {
				if from < 0 || n < 0 {
					continue
				}
				got, e := blob.Read(s.get, root, from, n)
				want := ""
				if from < size {
					want = data[from:]
					want = want[:min(int64(len(want)), n)]
				}
				if e != api.OK || got != want {
					t.Errorf("of %d bytes: Read(%d, %d): %d, %d bytes; want %d", size, from, n, e, len(got), len(want))
				}
			}
		}
		wantRead(t, "all", s, root, 0, size)
		wantRead(t, "the middle", s, root, size/3, size/3)
	}
}

// P10.2: ErrArg, and get is not asked, whatever it would answer.
func TestReadOfWrongArguments(t *testing.T) {
	data := countUp(1000)
	s, root := built(t, data)
	s.errs[root.Id] = api.ErrMissing
	for _, x := range []struct{ from, n int64 }{
		{-1, 5}, {5, -1}, {-1, -1}, {-1, 0}, {0, -1}, {math.MinInt64, 5}, {5, math.MinInt64}, {math.MinInt64, math.MinInt64}, {-5, math.MaxInt64}, {math.MaxInt64, -5}, {1000, -1}, {2000, -1},
	} {
		wantReadError(t, "below 0", s, root, x.from, x.n, api.ErrArg)
		wantAsked(t, "below 0", s)
	}
	for _, p := range wrongRoots(root) {
		for _, x := range []struct{ from, n int64 }{{0, 5}, {0, 0}, {-1, 5}, {math.MaxInt64, 0}} {
			wantReadError(t, "a wrong root", s, p, x.from, x.n, api.ErrArg)
			wantAsked(t, "a wrong root", s)
		}
	}
}

// wrongRoots are like a right one, but for an Id or a Size that none has.
func wrongRoots(root api.Part) []api.Part {
	return []api.Part{
		{}, {Size: root.Size}, {Id: root.Id[:31], Size: root.Size}, {Id: root.Id + "a", Size: root.Size}, {Id: "a", Size: 0}, {Id: root.Id + root.Id, Size: root.Size},
		{Id: root.Id, Size: -1}, {Id: root.Id, Size: math.MinInt64}, {Id: root.Id, Size: 262145}, {Id: root.Id, Size: 1 << 32}, {Id: root.Id, Size: math.MaxInt64},
		{Id: root.Id[:31], Size: 0}, {Id: "", Size: 262145},
	}
}

// P10.2: a root of Size 0 is right whatever its Id says, and is not asked for.
func TestReadOfRootsWithoutBytes(t *testing.T) {
	s, root := built(t, countUp(1000))
	empty, emptyRoot := built(t, "")
	for _, x := range []struct {
		s    *shelf
		root api.Part
	}{{s, api.Part{Id: root.Id}}, {s, api.Part{Id: id('x')}}, {empty, emptyRoot}} {
		for _, from := range places(0) {
			for _, n := range places(0) {
				if from < 0 || n < 0 {
					continue
				}
				x.s.asked = nil
				if got, e := blob.Read(x.s.get, x.root, from, n); got != "" || e != api.OK {
					t.Errorf("Read(%d, %d): %d, %q", from, n, e, got)
				}
				wantAsked(t, "Size 0", x.s)
			}
		}
	}
}

// P10.2: a root whose Size is not that of its object is told when a byte of it is read.
func TestReadOfRootsOfAnotherSize(t *testing.T) {
	for _, data := range []string{"", "a", countUp(64), repeated('a', 1024), countUp(1000), repeated('a', 2048)} {
		s, root := built(t, data)
		for _, size := range []int64{1, 2, 63, 65, 999, 1001, 1023, 1024, 1025, 2047, 2049, 262143, 262144} {
			if size == root.Size {
				continue
			}
			p := api.Part{Id: root.Id, Size: size}
			wantReadError(t, "another Size", s, p, 0, 1, api.ErrBlobCorrupt)
			wantAsked(t, "another Size", s, root.Id)
			wantReadError(t, "another Size", s, p, size-1, 1, api.ErrBlobCorrupt)
			wantReadError(t, "another Size", s, p, 0, size, api.ErrBlobCorrupt)
			if got, e := blob.Read(s.get, p, size, 5); got != "" || e != api.OK {
				t.Errorf("behind a Size %d that is not its: %d, %q", size, e, got)
			}
			wantRead(t, "nothing", s, p, 0, 0)
		}
	}
}

// P10.2: what get answers, each error in turn, at each object: it is the answer, and nothing is asked behind it.
func TestReadWithErrorsOfGet(t *testing.T) {
	x := newSmall()
	s, root := built(t, countUp(3000))
	for _, y := range []struct {
		s    *shelf
		root api.Part
	}{{x.shelf, x.root}, {s, root}} {
		for id := range y.s.has {
			for _, e := range errorsOfGet {
				y.s.errs[id] = e
				wantReadError(t, "an error of get", y.s, y.root, 0, y.root.Size, e)
				if last := y.s.asked[len(y.s.asked)-1]; last != id {
					t.Errorf("asked behind an error: %s", heads(y.s.asked))
				}
				for _, from := range []int64{0, 1, 4, 5, 9, 1000, 2999} {
					wantRead(t, "an error of get", y.s, y.root, from, 2)
				}
			}
			delete(y.s.errs, id)
			b := y.s.has[id]
			delete(y.s.has, id)
			wantReadError(t, "a missing object", y.s, y.root, 0, math.MaxInt64, api.ErrMissing)
			y.s.has[id] = b
		}
	}
}

// P10.2: bytes beside an error are none, whatever they say.
func TestReadOfBytesBesideAnError(t *testing.T) {
	x := newSmall()
	get := func(id string) (string, api.Errno) {
		b, _ := x.get(id)
		if id == x.de.Id {
			return b, api.ErrMissing
		}
		return b, api.OK
	}
	if got, e := blob.Read(get, x.root, 0, 10); got != "" || e != api.ErrMissing {
		t.Errorf("%d, %q", e, got)
	}
	wantAsked(t, "an error with bytes", x.shelf, idsOf(x.root, x.left, x.abc, x.de)...)
}

// P10.2: the first error ends it, in the order in which one goes: not the one that stands higher.
func TestFirstErrorEndsARead(t *testing.T) {
	x := newSmall()
	x.errs[x.right.Id], x.errs[x.de.Id] = 70, 71
	wantReadError(t, "two errors", x.shelf, x.root, 0, 10, 71)
	wantAsked(t, "two errors", x.shelf, idsOf(x.root, x.left, x.abc, x.de)...)
	x.has[x.abc.Id] = "Cab"
	wantReadError(t, "three errors", x.shelf, x.root, 0, 10, api.ErrBlobCorrupt)
	wantAsked(t, "three errors", x.shelf, idsOf(x.root, x.left, x.abc)...)
	wantReadError(t, "two errors", x.shelf, x.root, 3, 10, 71)
	wantReadError(t, "one error", x.shelf, x.root, 5, 10, 70)
	x.errs[x.left.Id] = 72
	wantReadError(t, "a fan's error", x.shelf, x.root, 0, 10, 72)
	wantAsked(t, "a fan's error", x.shelf, idsOf(x.root, x.left)...)
	x.has[x.root.Id] = ""
	wantReadError(t, "the root's", x.shelf, x.root, 0, 10, api.ErrBlobCorrupt)
	wantAsked(t, "the root's", x.shelf, x.root.Id)
}

// P10.2: an object that is broken, and of which no byte is read, makes no difference.
func TestWhatIsNotReadMayBeBroken(t *testing.T) {
	x := newSmall()
	x.has[x.left.Id], x.has[x.f.Id] = "nothing", "nothing"
	delete(x.has, x.abc.Id)
	if got, e := blob.Read(x.get, x.root, 6, 10); got != "ghij" || e != api.OK {
		t.Errorf("%d, %q", e, got)
	}
	wantReadError(t, "a broken fan", x.shelf, x.root, 4, 1, api.ErrBlobCorrupt)
	wantReadError(t, "a broken chunk", x.shelf, x.root, 5, 1, api.ErrBlobCorrupt)
}

// P10.2: an object is asked for as often as one goes to it.
func TestReadAsksAgain(t *testing.T) {
	s := shelfOf()
	ab := s.layChunk("ab")
	low := s.layFan(1, ab, ab, ab)
	root := s.layFan(2, low, low)
	if got, e := blob.Read(s.get, root, 1, 10); got != "bababababa" || e != api.OK {
		t.Errorf("%d, %q", e, got)
	}
	wantAsked(t, "the same again", s, idsOf(root, low, ab, ab, ab, low, ab, ab, ab)...)
	s.asked = nil
	if got, e := blob.Read(s.get, root, 4, 4); got != "abab" || e != api.OK {
		t.Errorf("%d, %q", e, got)
	}
	wantAsked(t, "the same again", s, idsOf(root, low, ab, low, ab)...)
	wantRead(t, "the same again", s, root, 0, 12)
}

// P10.2: each object of a tree in turn is other bytes.
func TestReadOfBrokenTrees(t *testing.T) {
	x := newSmall()
	tall := shelfOf()
	top := tall.layChunk("tall")
	for level := 1; level <= 20; level++ {
		top = tall.layFan(level, top)
	}
	s, root := built(t, countUp(3000))
	for _, y := range []struct {
		s    *shelf
		root api.Part
	}{{x.shelf, x.root}, {tall, top}, {s, root}} {
		wantRead(t, "a whole tree", y.s, y.root, 0, y.root.Size)
		for id, was := range clone(y.s.has) {
			for what, b := range brokenForms(was) {
				y.s.has[id] = b
				for _, from := range []int64{0, y.root.Size / 2, y.root.Size - 1} {
					wantRead(t, what, y.s, y.root, from, 1)
				}
				wantReadError(t, what, y.s, y.root, 0, y.root.Size, api.ErrBlobCorrupt)
				wantChunks(t, what, y.s, y.root)
				wantSpliced(t, what, y.s, y.root, 1, 2, "new")
			}
			y.s.has[id] = was
		}
	}
}

func clone(m map[string]string) map[string]string {
	out := map[string]string{}
	for k, v := range m {
		out[k] = v
	}
	return out
}

// brokenForms are bytes that can't stand in the place of an object's, each with what is wrong.
func brokenForms(b string) map[string]string {
	out := map[string]string{
		"no bytes": "", "a leaf": "L\x00", "a leaf with a pair": "L\x02\x02k\x02v",
		"a branch": "B\x02\x02\x02k" + id('i') + "\x02", "a commit": "K" + id('t') + "\x00\x00\x00\x00",
		"an unknown mark": "X" + b[1:], "a small mark": "c" + b[1:], "a mark alone": b[:1], "no mark": b[1:],
		"a chunk without data": "C", "a fan without kids": "F\x02\x00", "a fan's mark": "F",
		"a byte more": b + "\x00", "twice": b + b, "a byte less": b[:len(b)-1],
		"a chunk that is too long": "C" + repeated('x', 1025),
	}
	f, ok := takePlainFan(b)
	if !ok {
		out["fewer data"] = b[:len(b)-1]
		return out
	}
	for what, change := range fanChanges() {
		g := api.Fan{Level: f.Level, Kids: append([]api.Part(nil), f.Kids...)}
		change(&g)
		out[what] = plainFan(g)
	}
	out["a level of two bytes"] = "F" + string([]byte{b[1] | 0x80, 0}) + b[2:]
	return out
}

func fanChanges() map[string]func(f *api.Fan) {
	return map[string]func(f *api.Fan){
		"a level of 0":          func(f *api.Fan) { f.Level = 0 },
		"a level of 21":         func(f *api.Fan) { f.Level = 21 },
		"a level below 0":       func(f *api.Fan) { f.Level = -1 },
		"a level more":          func(f *api.Fan) { f.Level++ },
		"two levels more":       func(f *api.Fan) { f.Level += 2 },
		"a level less":          func(f *api.Fan) { f.Level-- },
		"a size more":           func(f *api.Fan) { f.Kids[0].Size++ },
		"a size less":           func(f *api.Fan) { f.Kids[len(f.Kids)-1].Size-- },
		"a size of 0":           func(f *api.Fan) { f.Kids[0].Size = 0 },
		"a size below 0":        func(f *api.Fan) { f.Kids[0].Size = -f.Kids[0].Size },
		"a great size":          func(f *api.Fan) { f.Kids[0].Size = math.MaxInt64 },
		"a kid of size 0 more":  func(f *api.Fan) { f.Kids = append(f.Kids, api.Part{Id: id('k')}) },
		"a kid more":            func(f *api.Fan) { f.Kids = append(f.Kids, api.Part{Id: id('k'), Size: 1}) },
		"a kid less":            func(f *api.Fan) { f.Kids = f.Kids[1:] },
		"the first kid twice":   func(f *api.Fan) { f.Kids = append(f.Kids[:1], f.Kids...) },
		"kids' sizes that wrap": func(f *api.Fan) { wrapSizes(f) },
		"a kid of a short id":   func(f *api.Fan) { f.Kids[0].Id = f.Kids[0].Id[:31] },
	}
}

// wrapSizes gives kids that come to what they came to only as numbers wrap round.
func wrapSizes(f *api.Fan) {
	f.Kids = append(f.Kids, api.Part{Id: id('w'), Size: math.MaxInt64}, api.Part{Id: id('w'), Size: math.MaxInt64}, api.Part{Id: id('w'), Size: 2})
}

// P10.2: kids of a fan of Level 1 are chunks, of a higher one fans of the Level one below; a root may be of any level.
func TestLevelsOfKids(t *testing.T) {
	s := shelfOf()
	byLevel := []api.Part{s.layChunk("abc")}
	for level := 1; level <= 20; level++ {
		byLevel = append(byLevel, s.layFan(level, byLevel[level-1]))
	}
	for _, p := range byLevel {
		if got, e := blob.Read(s.get, p, 1, 5); got != "bc" || e != api.OK {
			t.Errorf("%d, %q", e, got)
		}
	}
	for level := 1; level <= 20; level++ {
		for below, kid := range byLevel {
			p := s.layFan(level, kid)
			if below == level-1 {
				continue
			}
			wantReadError(t, "a kid of another level", s, p, 0, 3, api.ErrBlobCorrupt)
			wantAsked(t, "a kid of another level", s, p.Id, kid.Id)
			two := s.layFan(level, byLevel[level-1], kid)
			wantReadError(t, "the second kid of another level", s, two, 0, 6, api.ErrBlobCorrupt)
			if got, e := blob.Read(s.get, two, 0, 3); got != "abc" || e != api.OK {
				t.Errorf("a second kid that is not read: %d, %q", e, got)
			}
		}
	}
}

// P10.2: a fan that names itself is told by its level.
func TestFansThatNameThemselves(t *testing.T) {
	s := shelfOf()
	me := id('m')
	for level := 1; level <= 20; level++ {
		s.has[me] = plainFan(api.Fan{Level: level, Kids: []api.Part{{Id: me, Size: 9}}})
		root := api.Part{Id: me, Size: 9}
		wantReadError(t, "a circle", s, root, 0, 9, api.ErrBlobCorrupt)
		wantAsked(t, "a circle", s, me, me)
		wantChunks(t, "a circle", s, root)
		wantSpliced(t, "a circle", s, root, 0, 9, "")
	}
}

// P10.2: no id is asked about; bytes under another id are read as they are.
func TestReadOfBytesUnderAnotherId(t *testing.T) {
	s := shelfOf()
	s.has[id('r')] = plainFan(api.Fan{Level: 1, Kids: []api.Part{{Id: id('a'), Size: 2}, {Id: id('b'), Size: 1024}}})
	s.has[id('a')], s.has[id('b')] = "Cxy", "C"+repeated('z', 1024)
	if got, e := blob.Read(s.get, api.Part{Id: id('r'), Size: 1026}, 0, 5); got != "xyzzz" || e != api.OK {
		t.Errorf("%d, %q", e, got)
	}
	if got, e := blob.Read(s.get, api.Part{Id: id('b'), Size: 1024}, 1020, 5); got != "zzzz" || e != api.OK {
		t.Errorf("%d, %q", e, got)
	}
}

// R4: a nil get is none: ErrNil, behind the errors that the promises name first.
func TestNilGet(t *testing.T) {
	root := api.Part{Id: id('r'), Size: 5}
	for _, p := range []api.Part{root, {Id: id('r')}} {
		for _, n := range []int64{0, 5} {
			if got, e := blob.Read(nil, p, 0, n); got != "" || e != api.ErrNil {
				t.Errorf("Read: %d, %q", e, got)
			}
		}
		q, objs, e := blob.Splice(nil, p, 0, 0, "new")
		wantNoFile(t, "Splice", q, objs, e, api.ErrNil)
		if parts, e := blob.Chunks(nil, p); len(parts) != 0 || e != api.ErrNil {
			t.Errorf("Chunks: %d, %v", e, parts)
		}
	}
	if _, e := blob.Read(nil, root, -1, 5); e != api.ErrArg {
		t.Errorf("Read: %d", e)
	}
	if _, _, e := blob.Splice(nil, root, 6, 5, ""); e != api.ErrArg {
		t.Errorf("Splice: %d", e)
	}
	if _, _, e := blob.Splice(nil, root, 0, 0, repeated('a', 262145)); e != api.ErrNil {
		t.Errorf("Splice of too much: %d", e)
	}
	if _, e := blob.Chunks(nil, api.Part{}); e != api.ErrArg {
		t.Errorf("Chunks: %d", e)
	}
}
