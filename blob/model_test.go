package blob_test

import (
	"maps"
	"math"
	"math/rand"
	"slices"
	"testing"

	"tussock/api"
	"tussock/blob"
)

// draw says what drawn trees, and what is asked of them, are made of.
type draw struct{ *rand.Rand }

func (r draw) seldom() bool { return r.Intn(30) == 0 }

// tree lays a tree of a level: whole, but not such as Build makes; now and then a kid is of another level.
func (r draw) tree(s *shelf, level int) api.Part {
	if level == 0 {
		return s.layChunk(drawn(r.Rand, 1+r.Intn(6)))
	}
	var kids []api.Part
	for range 1 + r.Intn(3) {
		below := level - 1
		if r.Intn(150) == 0 {
			below = r.Intn(level + 1)
		}
		if len(kids) > 0 && r.Intn(4) == 0 {
			kids = append(kids, kids[0])
			continue
		}
		kids = append(kids, r.tree(s, below))
	}
	if r.seldom() {
		for len(kids) < 32+r.Intn(2) {
			kids = append(kids, kids[0])
		}
	}
	return s.layFan(level, kids...)
}

// file is a drawn file's, of some chunks, some of them twice.
func (r draw) file() string {
	var data string
	for range r.Intn(5) {
		piece := drawn(r.Rand, r.Intn(1500))
		if r.Intn(2) == 0 {
			piece = repeated(byte(r.Intn(256)), r.Intn(4000))
		}
		data += piece
		if r.Intn(3) == 0 {
			data += piece
		}
	}
	return data
}

// harm breaks some of what lies on a shelf.
func (r draw) harm(s *shelf) {
	ids := slices.Sorted(maps.Keys(s.has))
	for range r.Intn(3) {
		id := ids[r.Intn(len(ids))]
		was := s.has[id]
		switch forms := brokenForms(plainChunk("x")); r.Intn(6) {
		case 0:
			delete(s.has, id)
		case 1:
			s.errs[id] = errorsOfGet[r.Intn(len(errorsOfGet))]
		case 2:
			s.has[id] = s.has[ids[r.Intn(len(ids))]]
		case 3:
			b := []byte(was)
			if len(b) > 0 {
				b[r.Intn(len(b))] ^= byte(1 + r.Intn(255))
			}
			s.has[id] = string(b)
		case 4:
			if len(was) > 1 {
				forms = brokenForms(was)
			}
			names := slices.Sorted(maps.Keys(forms))
			s.has[id] = forms[names[r.Intn(len(names))]]
		case 5:
			s.has[id] = was[:r.Intn(len(was)+1)] + drawn(r.Rand, r.Intn(3))
		}
	}
}

// number is a place or a count for a file of so many bytes, mostly one within.
func (r draw) number(size int64) int64 {
	edges := []int64{0, 1, size - 1, size, size + 1, -1, math.MaxInt64, math.MaxInt64 - size, math.MinInt64, 1 << 40}
	if r.Intn(4) == 0 {
		return edges[r.Intn(len(edges))]
	}
	return r.Int63n(min(max(size, 0), 1<<40) + 2)
}

func (r draw) askAll(t *testing.T, s *shelf, root api.Part) {
	t.Helper()
	if r.seldom() {
		wrong := wrongRoots(root)
		root = wrong[r.Intn(len(wrong))]
	}
	if r.seldom() {
		root.Size += int64(r.Intn(5) - 2)
	}
	wantChunks(t, "drawn", s, root)
	wantRead(t, "drawn", s, root, 0, root.Size)
	for range 5 {
		wantRead(t, "drawn", s, root, r.number(root.Size), r.number(root.Size))
	}
	wantSpliced(t, "drawn", s, root, r.number(root.Size), r.number(root.Size), drawn(r.Rand, r.Intn(40)))
}

// P10.1 to P10.4: drawn files, whole and broken, against the plain model.
func TestDrawnFiles(t *testing.T) {
	for seed := range int64(400) {
		r := draw{rand.New(rand.NewSource(seed))}
		data := r.file()
		wantBuilt(t, "drawn", data)
		s, root := built(t, data)
		r.askAll(t, s, root)
		r.harm(s)
		r.askAll(t, s, root)
		if t.Failed() {
			t.Fatalf("the seed %d", seed)
		}
	}
}

// P10.2 to P10.4: drawn trees of all levels, whole and broken, against the plain model.
func TestDrawnTrees(t *testing.T) {
	for seed := range int64(3000) {
		r := draw{rand.New(rand.NewSource(seed))}
		s := shelfOf()
		level := r.Intn(6)
		root := r.tree(s, level)
		for r.seldom() && level < 20 {
			level++
			root = s.layFan(level, root)
		}
		r.askAll(t, s, root)
		r.harm(s)
		r.askAll(t, s, root)
		if t.Failed() {
			t.Fatalf("the seed %d", seed)
		}
	}
}

// R1: trees that are as wide as they may be end, too: 262144 chunks of one byte below one root.
func TestWidestTree(t *testing.T) {
	s := shelfOf()
	p := s.layChunk("w")
	for level, wide := 1, []int{32, 32, 32, 8}; level <= 4; level++ {
		p = s.layFan(level, slices.Repeat([]api.Part{p}, wide[level-1])...)
	}
	for level := 5; level <= 20; level++ {
		p = s.layFan(level, p)
	}
	all, e := blob.Read(s.get, p, 0, p.Size)
	if e != api.OK || all != repeated('w', 262144) || p.Size != 262144 {
		t.Errorf("Read: %d, %d bytes of %d", e, len(all), p.Size)
	}
	if parts, e := blob.Chunks(s.get, p); e != api.OK || len(parts) != 262144 {
		t.Errorf("Chunks: %d, %d", e, len(parts))
	}
	wantSpliced(t, "the widest tree", s, p, 0, 1, "a")
	q, objs, e := blob.Splice(s.get, p, 0, 0, "a")
	wantNoFile(t, "one byte more", q, objs, e, api.ErrBlobLong)
}

// P10.1 to P10.5: a file, a piece of it, what is laid there, and one of its objects that is other bytes, against the plain model.
func FuzzAsTheModel(f *testing.F) {
	f.Add([]byte(countUp(1000)), int64(300), int64(50), []byte("xyz"), 2, []byte("Cxyz"))
	f.Add([]byte(repeated('a', 3000)), int64(0), int64(math.MaxInt64), []byte{}, 0, []byte("F\x02\x02"+id('k')+"\x80\x10"))
	f.Add([]byte{}, int64(0), int64(0), []byte{}, 0, []byte("C"))
	f.Fuzz(func(t *testing.T, b []byte, from, n int64, more []byte, at int, other []byte) {
		data := string(b)
		if len(data) > 262144 {
			return
		}
		wantBuilt(t, "the file", data)
		s, root := built(t, data)
		ask := func(what string) {
			wantRead(t, what, s, root, 0, root.Size)
			wantRead(t, what, s, root, from, n)
			wantSpliced(t, what, s, root, from, n, string(more))
			wantChunks(t, what, s, root)
		}
		ask("whole")
		ids := slices.Sorted(maps.Keys(s.has))
		s.has[ids[int(uint(at)%uint(len(ids)))]] = string(other)
		ask("broken")
		s.has[root.Id] = string(other)
		ask("another root")
	})
}
