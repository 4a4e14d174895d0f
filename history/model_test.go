package history_test

import (
	"slices"
	"testing"

	"tussock/api"
)

// P19.1 to P19.4: drawn commits of all kinds, whole, against the plain reckoning.
func TestDrawn(t *testing.T) {
	for seed := range int64(400) {
		r := newDraw(seed)
		n := 1 + r.Intn(9)
		for _, s := range []*shelf{r.rising(n), r.falling(n), r.wild(n)} {
			wantAll(t, s, r.letters(n, 4)...)
		}
		if t.Failed() {
			t.Fatalf("the seed %d", seed)
		}
	}
}

// P19.1 to P19.4: drawn commits of which some can't be read.
func TestDrawnBroken(t *testing.T) {
	failed := 0
	for seed := range int64(400) {
		r := newDraw(seed)
		n := 1 + r.Intn(9)
		for _, s := range []*shelf{r.falling(n), r.wild(n)} {
			r.harm(s, n)
			ids := r.letters(n+1, 4)
			wantAll(t, s, ids...)
			if _, e := (&plain{shelf: s}).log(99, ids...); e != api.OK {
				failed++
			}
		}
		if t.Failed() {
			t.Fatalf("the seed %d", seed)
		}
	}
	if failed < 200 {
		t.Errorf("only %d met an error: the draws say too little", failed)
	}
}

// P19.2: drawn commits, about as many as a walk may meet.
func TestDrawnMany(t *testing.T) {
	for seed := range int64(4) {
		r := newDraw(seed)
		s := newShelf()
		n := 4090 + r.Intn(10)
		for i := range n {
			var parents []string
			for range min(i, 1+r.Intn(3)) {
				if p := number(max(0, i-1-r.Intn(40))); !slices.Contains(parents, p) {
					parents = append(parents, p)
				}
			}
			s.has[number(i)] = commitOf(int64(i/20+r.Intn(3)), parents...)
		}
		wantPlainLog(t, s, 5000, number(n-1), number(n-2), number(n-3))
		wantPlainLog(t, s, 300, number(n-1))
	}
}

// shelfOf lays commits that some bytes say: for each its time and kind, and whom it is of.
func shelfOf(b []byte) *shelf {
	s := newShelf()
	wrong := wrongBytes()
	for i := 0; i+4 <= len(b) && i < 4*16; i += 4 {
		at := letter(i / 4)
		switch kind := b[i] & 15; kind {
		case 0:
			continue
		case 1:
			s.errs[at] = api.Errno(b[i+1])
		case 2:
			s.has[at] = wrong[int(b[i+1])%(len(wrong)-1)]
		default:
			var parents []string
			for _, x := range b[i+1 : i+4] {
				if p := letter(int(x & 15)); x < 128 && !slices.Contains(parents, p) {
					parents = append(parents, p)
				}
			}
			s.has[at] = commitOf(int64(b[i]>>4), parents...)
		}
	}
	return s
}

// P19.1 to P19.4: commits that some bytes say, of which any may be its own parent, or can't be read.
func FuzzAsTheModel(f *testing.F) {
	f.Add([]byte("\x1f\xff\xff\xff\x2f\x00\xff\xff\x3f\x00\xff\xff\x4f\x01\x02\xff"), []byte{3, 1, 2}, 2)
	f.Add([]byte("\x1f\x01\xff\xff\x2f\x00\xff\xff\x1f\x00\x01\x02"), []byte{0, 2}, 9)
	f.Add([]byte("\x1f\xff\xff\xff\x00\x00\x00\x00\x3f\x01\x00\xff\x01\x07\xff\xff\x02\x03\xff\xff\x1f\x03\x04\x02"), []byte{5, 2, 0}, 1)
	f.Add([]byte{}, []byte{}, -1)
	f.Fuzz(func(t *testing.T, commits, from []byte, most int) {
		s := shelfOf(commits)
		var ids []string
		for _, x := range from[:min(len(from), 5)] {
			ids = append(ids, letter(int(x&15)))
		}
		wantPlainLog(t, s, most, ids...)
		wantAll(t, s, ids...)
	})
}
