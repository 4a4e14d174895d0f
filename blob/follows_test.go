package blob_test

import (
	"math/rand"
	"slices"
	"strings"
	"testing"

	"tussock/api"
	"tussock/blob"
)

// P10.5: what was built is read as it was, in one piece or in several.
func TestWhatWasBuiltIsRead(t *testing.T) {
	r := rand.New(rand.NewSource(8))
	for _, data := range append(manyFiles(), repeated('a', 262144), countUp(262144), scattered(262144), drawn(r, 262144)) {
		s, root := built(t, data)
		if got, e := blob.Read(s.get, root, 0, root.Size); got != data || e != api.OK {
			t.Errorf("of %d bytes: %d, %d bytes", len(data), e, len(got))
		}
		for _, most := range []int{1 + len(data)/40, 1 + len(data)/7, 1 + len(data)} {
			var b strings.Builder
			for from := int64(0); from <= root.Size; {
				n := int64(r.Intn(most + 1))
				piece, e := blob.Read(s.get, root, from, n)
				if e != api.OK || int64(len(piece)) != min(n, root.Size-from) {
					t.Fatalf("of %d bytes: Read(%d, %d): %d, %d bytes", len(data), from, n, e, len(piece))
				}
				b.WriteString(piece)
				from += n
			}
			if b.String() != data {
				t.Errorf("of %d bytes: the pieces are not the file", len(data))
			}
		}
	}
}

// P10.5: two files with the same bytes have the same root, however they came.
func TestOneRootForTheSameBytes(t *testing.T) {
	r := rand.New(rand.NewSource(9))
	for range 30 {
		want := drawn(r, 1+r.Intn(6000))
		root, objs, _ := blob.Build(want)
		s, now := built(t, drawn(r, r.Intn(3000)))
		steps := 1 + r.Intn(5)
		for i := range steps { // the file is laid over another one, piece by piece
			from, to := len(want)*i/steps, len(want)*(i+1)/steps
			n := int64(to - from)
			if i == steps-1 {
				n = 1 << 40
			}
			p, made, e := blob.Splice(s.get, now, min(int64(from), now.Size), n, want[from:to])
			if e != api.OK {
				t.Fatalf("Splice: %d", e)
			}
			for _, o := range made {
				s.has[o.Id] = o.Bytes
			}
			now = p
		}
		if now != root {
			t.Errorf("%d bytes: %x; want %x", len(want), now, root)
		}
		again, more, _ := blob.Build(strings.Clone(want))
		if again != root || !slices.Equal(more, objs) {
			t.Error("the same bytes, and another file")
		}
	}
}

// P10.5: other bytes, another root.
func TestAnotherRootForOtherBytes(t *testing.T) {
	data := countUp(1000)
	root, _, _ := blob.Build(data)
	for i := range len(data) {
		other, _, _ := blob.Build(data[:i] + string([]byte{data[i] ^ 1}) + data[i+1:])
		if other == root || other.Id == root.Id {
			t.Errorf("the byte %d makes no difference", i)
		}
	}
	for i := range len(data) {
		if p, _, _ := blob.Build(data[:i]); p.Id == root.Id {
			t.Errorf("%d bytes, and the same root", i)
		}
	}
}

// P10.5: Read asks for no object of which no byte is read: all others may be missing.
func TestNothingIsAskedInVain(t *testing.T) {
	r := rand.New(rand.NewSource(10))
	for _, data := range []string{countUp(5000), drawn(r, 20000), drawn(r, 262144)} {
		s, root := built(t, data)
		for range 50 {
			from := r.Int63n(root.Size)
			n := 1 + r.Int63n(1+r.Int63n(root.Size-from))
			s.asked = nil
			want, _ := blob.Read(s.get, root, from, n)
			few := shelfOf()
			for _, id := range s.asked {
				few.has[id] = s.has[id]
			}
			got, e := blob.Read(few.get, root, from, n)
			if e != api.OK || got != want || got != data[from:from+n] {
				t.Fatalf("Read(%d, %d): %d, %d bytes", from, n, e, len(got))
			}
			wantTouched(t, s, root, from, from+n)
		}
	}
}

// wantTouched asks that each part that was asked for has a byte from from on up to to, by its place in the tree, and that each such part was asked for.
func wantTouched(t *testing.T, s *shelf, root api.Part, from, to int64) {
	t.Helper()
	var want []string
	var walk func(p api.Part, at int64)
	walk = func(p api.Part, at int64) {
		if at < to && at+p.Size > from {
			want = append(want, p.Id)
			f, _ := takePlainFan(s.has[p.Id])
			for _, k := range f.Kids {
				walk(k, at)
				at += k.Size
			}
		}
	}
	walk(root, 0)
	wantAsked(t, "a piece", s, want...)
}

// P10.5: a change in the middle of a long file leaves most of its objects as they were.
func TestMostObjectsStay(t *testing.T) {
	data := drawn(rand.New(rand.NewSource(11)), 200000)
	s, root := built(t, data)
	_, objs, e := blob.Splice(s.get, root, 100000, 10, "some other bytes")
	if e != api.OK {
		t.Fatal(e)
	}
	fresh := 0
	for _, o := range objs {
		if _, ok := s.has[o.Id]; !ok {
			fresh++
		}
	}
	if fresh == 0 || fresh > 30 {
		t.Errorf("%d of %d objects are new", fresh, len(objs))
	}
}
