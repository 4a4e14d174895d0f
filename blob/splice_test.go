package blob_test

import (
	"math"
	"math/rand"
	"testing"

	"tussock/api"
	"tussock/blob"
)

// wantChanged asks Splice for the file that has these bytes then.
func wantChanged(t *testing.T, s *shelf, root api.Part, from, n int64, data, want string) {
	t.Helper()
	p, objs, e := blob.Splice(s.get, root, from, n, data)
	wantMade(t, "Splice", p, objs, e, want)
	wantSpliced(t, "Splice", s, root, from, n, data)
}

// P10.3: at the start, in the middle, at the end; of none, of some, of all, of more than there are; with bytes, with none.
func TestSpliceOfASmallTree(t *testing.T) {
	x := newSmall()
	for _, c := range []struct {
		from, n    int64
		data, want string
	}{
		{0, 0, "", "abcdefghij"}, {5, 0, "", "abcdefghij"}, {10, 0, "", "abcdefghij"}, {10, 7, "", "abcdefghij"},
		{0, 0, "X", "Xabcdefghij"}, {0, 1, "X", "Xbcdefghij"}, {0, 3, "XYZ!", "XYZ!defghij"}, {0, 4, "", "efghij"},
		{4, 0, "XY", "abcdXYefghij"}, {4, 2, "XY", "abcdXYghij"}, {4, 5, "", "abcdj"}, {4, 6, "", "abcd"}, {4, 7, "X", "abcdX"},
		{9, 0, "X", "abcdefghiXj"}, {9, 1, "X", "abcdefghiX"}, {9, 1, "", "abcdefghi"}, {9, 2, "XY", "abcdefghiXY"},
		{10, 0, "X", "abcdefghijX"}, {10, 1, "X", "abcdefghijX"}, {10, math.MaxInt64, "X", "abcdefghijX"},
		{0, 10, "", ""}, {0, 10, "X", "X"}, {0, 11, "XY", "XY"}, {0, math.MaxInt64, "", ""}, {0, math.MaxInt64 - 1, "X", "X"},
		{1, math.MaxInt64, "X", "aX"}, {9, math.MaxInt64, "X", "abcdefghiX"}, {2, math.MaxInt64 - 1, "", "ab"}, {3, math.MaxInt64 - 3, "", "abc"},
	} {
		wantChanged(t, x.shelf, x.root, c.from, c.n, c.data, c.want)
		x.asked = nil
		blob.Splice(x.get, x.root, c.from, c.n, c.data)
		wantAsked(t, c.want, x.shelf, idsOf(x.root, x.left, x.abc, x.de, x.right, x.f, x.ghij)...)
	}
}

// P10.3: files of all kinds, changed at the edges: the answer is Build's, with all its objects, whether get has them or not.
func TestSpliceOfManyFiles(t *testing.T) {
	r := rand.New(rand.NewSource(7))
	for _, data := range append(manyFiles(), scattered(150000)) {
		s, root := built(t, data)
		size := int64(len(data))
		wantChanged(t, s, root, 0, 0, "", data)
		wantChanged(t, s, root, 0, size, data, data)
		wantChanged(t, s, root, 0, math.MaxInt64, "", "")
		wantChanged(t, s, root, size, 0, data[:size/2], data+data[:size/2])
		for range 3 {
			from := r.Int63n(size + 1)
			n := r.Int63n(size - from + 1)
			more := drawn(r, r.Intn(500))
			wantChanged(t, s, root, from, n, more, data[:from]+more+data[from+n:])
		}
	}
}

// P10.3: ErrArg as Read, and of a place behind the file's end; get is not asked.
func TestSpliceOfWrongArguments(t *testing.T) {
	s, root := built(t, countUp(1000))
	s.errs[root.Id] = api.ErrMissing
	long := repeated('a', 262145)
	for _, x := range []struct{ from, n int64 }{
		{-1, 5}, {5, -1}, {-1, -1}, {math.MinInt64, 0}, {0, math.MinInt64}, {1001, 0}, {1001, -1}, {1001, 5}, {1 << 40, 0}, {math.MaxInt64, 0}, {math.MaxInt64, math.MaxInt64},
	} {
		for _, data := range []string{"", "new", long} {
			p, objs, e := blob.Splice(s.get, root, x.from, x.n, data)
			wantNoFile(t, "Splice", p, objs, e, api.ErrArg)
		}
	}
	for _, p := range wrongRoots(root) {
		for _, data := range []string{"", "new", long} {
			q, objs, e := blob.Splice(s.get, p, 0, 0, data)
			wantNoFile(t, "Splice of a wrong root", q, objs, e, api.ErrArg)
		}
	}
	wantAsked(t, "ErrArg", s)
	wantSpliced(t, "right at the end", s, root, 1000, 5, "new")
	wantAsked(t, "right at the end", s, root.Id)
}

// P10.3: of a root of Size 0 nothing is asked; only its place 0 is none behind its end.
func TestSpliceOfRootsWithoutBytes(t *testing.T) {
	s := shelfOf()
	for _, root := range []api.Part{{Id: sumOf("C")}, {Id: id('x')}} {
		for _, data := range []string{"", "a", countUp(1000)} {
			wantChanged(t, s, root, 0, 0, data, data)
			wantChanged(t, s, root, 0, math.MaxInt64, data, data)
			p, objs, e := blob.Splice(s.get, root, 1, 0, data)
			wantNoFile(t, "behind the end", p, objs, e, api.ErrArg)
		}
	}
	wantAsked(t, "Size 0", s)
}

// P10.3: a file that comes to 262144 bytes is one, with one more it is none.
func TestSpliceUpToTheLongestFile(t *testing.T) {
	data := scattered(1000)
	s, root := built(t, data)
	all := countUp(262145)
	for _, x := range []struct{ from, n int64 }{{0, 0}, {500, 0}, {1000, 0}, {1000, 5}, {0, 1000}, {200, 300}, {200, math.MaxInt64}} {
		gone := min(x.n, 1000-x.from)
		room := 262144 - (1000 - gone)
		wantChanged(t, s, root, x.from, x.n, all[:room], data[:x.from]+all[:room]+data[x.from+gone:])
		for _, more := range []string{all[:room+1], all, all + all} {
			p, objs, e := blob.Splice(s.get, root, x.from, x.n, more)
			wantNoFile(t, "Splice of too much", p, objs, e, api.ErrBlobLong)
		}
		wantSpliced(t, "too much", s, root, x.from, x.n, all[:room+1])
		if len(s.asked) < 4 {
			t.Errorf("of too much %d objects are asked", len(s.asked))
		}
	}
	s, root = built(t, all[:262144])
	wantChanged(t, s, root, 100, 50, all[:50], all[:100]+all[:50]+all[150:262144])
	wantChanged(t, s, root, 262144, 0, "", all[:262144])
	for _, from := range []int64{0, 1, 262143, 262144} {
		p, objs, e := blob.Splice(s.get, root, from, 0, "a")
		wantNoFile(t, "one more", p, objs, e, api.ErrBlobLong)
	}
}

// P10.3: what Read answers of the whole file, if that is an error, stands ahead of ErrBlobLong; an object of which no byte stays, too.
func TestSpliceWithErrors(t *testing.T) {
	x := newSmall()
	long := repeated('a', 262145)
	for id := range x.has {
		for _, e := range errorsOfGet {
			x.errs[id] = e
			for _, data := range []string{"", "new", long} {
				for _, from := range []int64{0, 4, 10} {
					p, objs, got := blob.Splice(x.get, x.root, from, 10, data)
					wantNoFile(t, "Splice", p, objs, got, e)
					wantSpliced(t, "an error of get", x.shelf, x.root, from, 10, data)
				}
				p, objs, got := blob.Splice(x.get, x.root, 11, 10, data)
				wantNoFile(t, "behind the end", p, objs, got, api.ErrArg)
			}
		}
		delete(x.errs, id)
	}
	x.has[x.ghij.Id] = "Cghi"
	for _, data := range []string{"", long} {
		p, objs, e := blob.Splice(x.get, x.root, 6, 4, data)
		wantNoFile(t, "a broken chunk", p, objs, e, api.ErrBlobCorrupt)
	}
}
