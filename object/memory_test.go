package object_test

import (
	"slices"
	"testing"
	"unsafe"

	"tussock/api"
	"tussock/object"
)

// lies tells whether a text that has bytes lies within another one's memory.
func lies(s, within string) bool {
	at, from := uintptr(unsafe.Pointer(unsafe.StringData(s))), uintptr(unsafe.Pointer(unsafe.StringData(within)))
	return len(s) > 0 && at >= from && at < from+uintptr(len(within))
}

// wantOwn asks that texts that were answered lie in none that was handed in.
func wantOwn(t *testing.T, what, given string, answered ...string) {
	t.Helper()
	for _, s := range answered {
		if lies(s, given) {
			t.Errorf("%s: %q lies in what was handed in", what, head(s))
		}
	}
}

// R3: texts that are answered are new memory, so that they keep none of what was handed in.
func TestTextsAreNew(t *testing.T) {
	part := string([]byte("a part of some bytes"))
	wantOwn(t, "Of", part, object.Of(part).Bytes, object.Of(part, "").Bytes)
	b := plainBytes(chunk("abc"))
	data, _ := object.TakeChunk(b)
	wantOwn(t, "TakeChunk", b, data)
	b = plainBytes(fan(1, 2))
	f, _ := object.TakeFan(b)
	wantOwn(t, "TakeFan", b, f.Kids[0].Id, f.Kids[1].Id)
	b = plainBytes(pairs(2))
	l, _ := object.TakeLeaf(b)
	wantOwn(t, "TakeLeaf", b, l[0].Key, l[1].Key, l[1].Val)
	b = plainBytes(branch(1, 2))
	x, _ := object.TakeBranch(b)
	wantOwn(t, "TakeBranch", b, x.Kids[0].Last, x.Kids[1].Id)
	b = plainBytes(api.Commit{Tree: id(1), Parents: []string{id(2)}, Who: "w", Note: "n"})
	c, _ := object.TakeCommit(b)
	wantOwn(t, "TakeCommit", b, c.Tree, c.Parents[0], c.Who, c.Note)
	refs, _ := object.Refs(b)
	wantOwn(t, "Refs", b, refs...)
	name, val := string([]byte("name")), plainValue(api.Entry{Kind: api.KFile, Id: id(1)})
	e, _ := object.TakeEntry(name, val)
	wantOwn(t, "TakeEntry", name, e.Name)
	wantOwn(t, "TakeEntry", val, e.Id)
}

// spoil writes into a list that was handed in or out, and into its spare room.
func spoil[T any](list []T) {
	var zero T
	for i := range list[:cap(list)] {
		list[:cap(list)][i] = zero
	}
}

// R3: lists that are handed in stay as they are, their spare room too, and what was made of them stays when they are changed.
func TestListsHandedInStay(t *testing.T) {
	kids, links, two, parents := fan(1, 5).Kids, branch(1, 5).Kids, pairs(5), []string{id(1), id(2), id(3), id(4), id(5)}
	parts := []string{"a", "b", "c", "d", "e"}
	before := []thing{api.Fan{Kids: slices.Clone(kids)}, api.Branch{Kids: slices.Clone(links)}, slices.Clone(two), api.Commit{Parents: slices.Clone(parents)}}
	made := []thing{api.Fan{Level: 1, Kids: kids[:3]}, api.Branch{Level: 1, Kids: links[:3]}, two[:3], api.Commit{Tree: id(0), Parents: parents[:3]}}
	var objs []api.Object
	var want []string
	for _, x := range made {
		want = append(want, plainBytes(x))
		o, _ := makeThing(x)
		objs = append(objs, o)
	}
	of := object.Of(parts[:3]...)
	for i, now := range []thing{api.Fan{Kids: kids}, api.Branch{Kids: links}, two, api.Commit{Parents: parents}} {
		if !same(now, before[i]) {
			t.Errorf("%c: %v; it was %v", markOf(now), now, before[i])
		}
	}
	if !slices.Equal(parts, []string{"a", "b", "c", "d", "e"}) {
		t.Errorf("%q", parts)
	}
	spoil(kids)
	spoil(links)
	spoil(two)
	spoil(parents)
	spoil(parts)
	for i, o := range objs {
		if o.Bytes != want[i] {
			t.Errorf("%q; want %q", head(o.Bytes), head(want[i]))
		}
	}
	if of.Bytes != "abc" {
		t.Errorf("%q", of.Bytes)
	}
}

// R3: lists that are answered are the caller's: changed, spare room too, they change no other answer.
func TestListsHandedOutAreNew(t *testing.T) {
	for _, x := range []thing{fan(2, 5), branch(2, 5), pairs(5), api.Commit{Tree: id(0), Parents: []string{id(1), id(2), id(3), id(4), id(5)}}} {
		b := plainBytes(x)
		one, _ := takeThing(markOf(x), b)
		other, _ := takeThing(markOf(x), b)
		refs, _ := object.Refs(b)
		again, _ := object.Refs(b)
		had := slices.Clone(again)
		switch one := one.(type) {
		case api.Fan:
			spoil(one.Kids)
		case api.Branch:
			spoil(one.Kids)
		case leaf:
			spoil(one)
		case api.Commit:
			spoil(one.Parents)
		}
		spoil(refs)
		if !same(other, x) || !slices.Equal(again, had) {
			t.Errorf("%c shares memory: %v; %q", b[0], other, again)
		}
		wantTaken(t, "again", b, x)
		wantRefs(t, "again", b, had...)
	}
}
