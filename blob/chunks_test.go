package blob_test

import (
	"slices"
	"testing"

	"tussock/api"
	"tussock/blob"
	"tussock/gear"
)

// P10.4: the chapter's example, and what is asked.
func TestExamplesOfChunks(t *testing.T) {
	data := countUp(1000)
	s, root := built(t, data)
	want := []api.Part{part(data[:321]), part(data[321:583]), part(data[583:857]), part(data[857:])}
	if got, e := blob.Chunks(s.get, root); e != api.OK || !slices.Equal(got, want) {
		t.Errorf("%d, %x", e, got)
	}
	top, _ := takePlainFan(s.has[root.Id])
	wantAsked(t, "Chunks", s, root.Id, top.Kids[0].Id, top.Kids[1].Id)
}

// P10.4: a fan is asked for ahead of its kids, chunks are not, unless the root is one.
func TestChunksOfASmallTree(t *testing.T) {
	x := newSmall()
	for _, c := range []struct {
		root         api.Part
		asked, parts []api.Part
	}{
		{x.root, []api.Part{x.root, x.left, x.right}, []api.Part{x.abc, x.de, x.f, x.ghij}},
		{x.left, []api.Part{x.left}, []api.Part{x.abc, x.de}},
		{x.ghij, []api.Part{x.ghij}, []api.Part{x.ghij}},
		{x.layFan(3, x.root, x.root), []api.Part{x.layFan(3, x.root, x.root), x.root, x.left, x.right, x.root, x.left, x.right},
			[]api.Part{x.abc, x.de, x.f, x.ghij, x.abc, x.de, x.f, x.ghij}},
	} {
		x.asked = nil
		if got, e := blob.Chunks(x.get, c.root); e != api.OK || !slices.Equal(got, c.parts) {
			t.Errorf("%d, %s; want %s", e, heads(idsOf(got...)), heads(idsOf(c.parts...)))
		}
		wantAsked(t, "Chunks", x.shelf, idsOf(c.asked...)...)
	}
}

// P10.4: files of all kinds: their parts are where gear cuts.
func TestChunksOfManyFiles(t *testing.T) {
	for _, data := range append(manyFiles(), repeated('a', 262144), scattered(262144)) {
		s, root := built(t, data)
		var want []api.Part
		from := 0
		for _, end := range gear.Cuts(data) {
			want = append(want, part(data[from:end]))
			from = end
		}
		if got, e := blob.Chunks(s.get, root); e != api.OK || !slices.Equal(got, want) {
			t.Errorf("of %d bytes: %d, %d chunks; want %d", len(data), e, len(got), len(want))
		}
		wantChunks(t, "a file", s, root)
	}
}

// P10.4: a root that is not right: ErrArg; of a Size 0: none. Nothing is asked.
func TestChunksOfWrongRoots(t *testing.T) {
	s, root := built(t, countUp(1000))
	for _, p := range wrongRoots(root) {
		if got, e := blob.Chunks(s.get, p); len(got) != 0 || e != api.ErrArg {
			t.Errorf("%x: %d, %v", p, e, got)
		}
	}
	for _, p := range []api.Part{{Id: root.Id}, {Id: id('x')}, {Id: sumOf("C")}} {
		if got, e := blob.Chunks(s.get, p); len(got) != 0 || e != api.OK {
			t.Errorf("of Size 0: %d, %v", e, got)
		}
	}
	wantAsked(t, "Chunks", s)
	for _, size := range []int64{1, 999, 1001, 262144} {
		p := api.Part{Id: root.Id, Size: size}
		if got, e := blob.Chunks(s.get, p); len(got) != 0 || e != api.ErrBlobCorrupt {
			t.Errorf("of Size %d: %d, %v", size, e, got)
		}
		wantChunks(t, "another Size", s, p)
	}
	one := s.layChunk("abc")
	for _, size := range []int64{1, 2, 4, 1024, 1025} {
		p := api.Part{Id: one.Id, Size: size}
		if got, e := blob.Chunks(s.get, p); len(got) != 0 || e != api.ErrBlobCorrupt {
			t.Errorf("a chunk, of Size %d: %d, %v", size, e, got)
		}
	}
}

// P10.4: errors of what is asked, and of nothing else: chunks may be missing, or broken.
func TestChunksWithErrors(t *testing.T) {
	x := newSmall()
	for _, p := range []api.Part{x.abc, x.de, x.f, x.ghij} {
		x.errs[p.Id] = api.ErrMissing
	}
	x.has[x.de.Id] = "nothing"
	want := []api.Part{x.abc, x.de, x.f, x.ghij}
	if got, e := blob.Chunks(x.get, x.root); e != api.OK || !slices.Equal(got, want) {
		t.Errorf("without chunks: %d, %s", e, heads(idsOf(got...)))
	}
	for _, p := range []api.Part{x.root, x.left, x.right} {
		for _, want := range errorsOfGet {
			x.errs[p.Id] = want
			if got, e := blob.Chunks(x.get, x.root); len(got) != 0 || e != want {
				t.Errorf("%d, %v; want %d", e, got, want)
			}
			wantChunks(t, "an error of get", x.shelf, x.root)
			if last := x.asked[len(x.asked)-1]; last != p.Id {
				t.Errorf("asked behind an error: %s", heads(x.asked))
			}
		}
		delete(x.errs, p.Id)
		was := x.has[p.Id]
		for what, b := range brokenForms(was) {
			x.has[p.Id] = b
			wantChunks(t, what, x.shelf, x.root)
		}
		x.has[p.Id] = was
	}
	if got, e := blob.Chunks(x.get, x.abc); len(got) != 0 || e != api.ErrMissing {
		t.Errorf("a root that is a chunk: %d, %v", e, got)
	}
}

// P10.4: the first error ends it.
func TestFirstErrorEndsChunks(t *testing.T) {
	x := newSmall()
	x.errs[x.left.Id], x.errs[x.right.Id] = 71, 72
	if got, e := blob.Chunks(x.get, x.root); len(got) != 0 || e != 71 {
		t.Errorf("%d, %v", e, got)
	}
	wantAsked(t, "two errors", x.shelf, x.root.Id, x.left.Id)
	delete(x.errs, x.left.Id)
	if got, e := blob.Chunks(x.get, x.root); len(got) != 0 || e != 72 {
		t.Errorf("%d, %v", e, got)
	}
	x.has[x.left.Id] = plainChunk("abcde")
	if got, e := blob.Chunks(x.get, x.root); len(got) != 0 || e != api.ErrBlobCorrupt {
		t.Errorf("a chunk in the place of a fan: %d, %v", e, got)
	}
}

// P10.4: kids of fans are of the Level one below; what stands below Level 1 is not asked for, and so tells nothing.
func TestChunksOfLevels(t *testing.T) {
	s := shelfOf()
	byLevel := []api.Part{s.layChunk("abc")}
	for level := 1; level <= 20; level++ {
		byLevel = append(byLevel, s.layFan(level, byLevel[level-1]))
	}
	for level, p := range byLevel {
		wantChunks(t, "a tall tree", s, p)
		if got, e := blob.Chunks(s.get, p); e != api.OK || !slices.Equal(got, byLevel[:1]) {
			t.Errorf("level %d: %d, %v", level, e, got)
		}
		for above := 2; above <= 20; above++ {
			if above == level+1 {
				continue
			}
			wrong := s.layFan(above, p)
			if got, e := blob.Chunks(s.get, wrong); len(got) != 0 || e != api.ErrBlobCorrupt {
				t.Errorf("level %d below %d: %d, %v", level, above, e, got)
			}
			wantChunks(t, "a kid of another level", s, wrong)
		}
	}
	// Nothing that is asked says that a fan, or that so many bytes, stand in the place of a chunk.
	kids := []api.Part{byLevel[1], {Id: id('x'), Size: 1025}, {Id: id('y'), Size: 262144 - 1028}}
	if got, e := blob.Chunks(s.get, s.layFan(1, kids...)); e != api.OK || !slices.Equal(got, kids) {
		t.Errorf("%d, %v", e, got)
	}
}
