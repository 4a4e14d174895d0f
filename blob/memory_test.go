package blob_test

import (
	"slices"
	"testing"
	"unsafe"

	"tussock/api"
	"tussock/blob"
)

// lent is a text that its owner changes afterwards all the same.
func lent(s string) (string, []byte) {
	b := []byte(s)
	return unsafe.String(unsafe.SliceData(b), len(b)), b
}

// R3: what was built shares no memory with the bytes that it was built of.
func TestBuildKeepsNothing(t *testing.T) {
	for _, data := range []string{"a", countUp(64), countUp(1000), scattered(6000)} {
		shared, b := lent(data)
		root, objs, e := blob.Build(shared)
		if string(b) != data {
			t.Error("what was handed in is not what it was")
		}
		clear(b)
		wantMade(t, "Build", root, objs, e, data)
	}
}

// R3: nor does what is read with what get answered, or with the root's Id.
func TestReadKeepsNothing(t *testing.T) {
	for _, data := range []string{"a", countUp(64), countUp(1000)} {
		s, root := built(t, data)
		var lentOnes [][]byte
		get := func(id string) (string, api.Errno) {
			text, e := s.get(id)
			shared, b := lent(text)
			lentOnes = append(lentOnes, b)
			return shared, e
		}
		sharedId, b := lent(root.Id)
		root.Id = sharedId
		got, e := blob.Read(get, root, 0, root.Size)
		chunks, e2 := blob.Chunks(get, root)
		p, objs, e3 := blob.Splice(get, root, 1, 0, "new")
		want, _ := plainBuild(data)
		for _, l := range append(lentOnes, b) {
			clear(l)
		}
		if got != data || e != api.OK {
			t.Errorf("Read: %d, %q", e, head(got))
		}
		kept := plainChunks(s, want)
		if e2 != api.OK || !slices.Equal(chunks, kept.parts) {
			t.Errorf("Chunks: %d, %x", e2, chunks)
		}
		wantMade(t, "Splice", p, objs, e3, data[:1]+"new"+data[1:])
	}
}

// R3: what Splice is handed is neither kept nor written into.
func TestSpliceKeepsNothing(t *testing.T) {
	x := newSmall()
	shared, b := lent("some new bytes")
	p, objs, e := blob.Splice(x.get, x.root, 5, 2, shared)
	if string(b) != "some new bytes" {
		t.Error("what was handed in is not what it was")
	}
	clear(b)
	wantMade(t, "Splice", p, objs, e, "abcde"+"some new bytes"+"hij")

	shared, b = lent("all that there is")
	p, objs, e = blob.Splice(x.get, api.Part{Id: id('x')}, 0, 0, shared)
	clear(b)
	wantMade(t, "Splice", p, objs, e, "all that there is")
}

// R3: answers are the caller's alone, their spare room too.
func TestAnswersAreTheCallers(t *testing.T) {
	data := scattered(6000)
	s, root := built(t, data)
	_, objs, _ := blob.Build(data)
	kept := slices.Clone(objs)
	_, more, _ := blob.Build(data)
	clear(more[:cap(more)])
	if !slices.Equal(objs, kept) {
		t.Error("two answers of Build share their room")
	}
	chunks, _ := blob.Chunks(s.get, root)
	parts := slices.Clone(chunks)
	others, _ := blob.Chunks(s.get, root)
	clear(others[:cap(others)])
	if !slices.Equal(chunks, parts) {
		t.Error("two answers of Chunks share their room")
	}
	wantBuilt(t, "again", data)
	wantChunks(t, "again", s, root)
	one := append(chunks, api.Part{Id: "one"})
	two, _ := blob.Chunks(s.get, root)
	two = append(two, api.Part{Id: "two"})
	if one[len(one)-1].Id != "one" || two[len(two)-1].Id != "two" {
		t.Error("spare room is shared")
	}
}

// R4: what is answered hangs on the arguments alone: a get may call again meanwhile.
func TestGetThatReadsItself(t *testing.T) {
	x := newSmall()
	get := func(id string) (string, api.Errno) {
		if inner, e := blob.Read(x.look, x.root, 2, 5); inner != "cdefg" || e != api.OK {
			t.Errorf("within: %d, %q", e, inner)
		}
		return x.look(id)
	}
	if got, e := blob.Read(get, x.root, 1, 8); got != "bcdefghi" || e != api.OK {
		t.Errorf("%d, %q", e, got)
	}
}
