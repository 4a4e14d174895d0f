package store_test

import (
	"slices"
	"strings"
	"testing"
	"unsafe"

	"tussock/api"
	"tussock/hash"
)

// R3: what is handed in is neither written into, nor its spare room, nor kept.
func TestWhatIsHandedInStays(t *testing.T) {
	d, s := storeOf(t, "a")
	room := append(objects("c b a b"), objects("spare room")...)
	before := slices.Clone(room)
	want(t, "Put", s.Put(room[:4]...), api.OK)
	if !slices.Equal(room, before) {
		t.Errorf("Put wrote into %q", room)
	}
	for i := range room {
		room[i] = api.Object{Id: "changed", Bytes: "changed"}
	}
	wantTold(t, s, words("a b c"))
	wantGood(t, d, words("a b c"))

	some := append(ids("x c c a"), "spare", "room")
	kept := slices.Clone(some)
	want(t, "Keep", s.Keep(some[:4]...), api.OK)
	if !slices.Equal(some, kept) {
		t.Errorf("Keep wrote into %x", some)
	}
	for i := range some {
		some[i] = "changed"
	}
	wantTold(t, s, words("a c"))
	wantGood(t, d, words("a c"))
}

// R3: what is handed out is the caller's: no two lists share memory, nor does the store.
func TestWhatIsHandedOutIsNew(t *testing.T) {
	_, s := storeOf(t, "a b c", "d e")
	one, other := s.Ids(), s.Ids()
	all := slices.Clone(other)
	for i := range one[:cap(one)] {
		one[:cap(one)][i] = "changed"
	}
	_ = append(one[:0], "more")
	if !slices.Equal(other, all) || !slices.Equal(s.Ids(), all) {
		t.Error("Ids share memory")
	}
	wantTold(t, s, words("a b c d e"))
}

// lies tells whether a text that has bytes lies within another one's memory.
func lies(s, within string) bool {
	at, from := uintptr(unsafe.Pointer(unsafe.StringData(s))), uintptr(unsafe.Pointer(unsafe.StringData(within)))
	return at >= from && at < from+uintptr(len(within))
}

// R3: an id, or an area, that is a piece of a greater text is copied: kept as it is, it would keep all of that.
func TestTextsAreNotKept(t *testing.T) {
	whole := strings.Repeat("-", 1000) + hash.Sum("text") + "text" + strings.Repeat("-", 1000)
	id, text := whole[1000:1032], whole[1032:1036]
	d, s := storeOf(t)
	want(t, "Put", s.Put(api.Object{Id: id, Bytes: text}), api.OK)
	check := func() {
		t.Helper()
		got, e := s.Get(id)
		if e != api.OK || got != "text" || lies(got, whole) || lies(s.Ids()[0], whole) {
			t.Errorf("%q, %d: it lies within what was handed in", got, e)
		}
	}
	check()
	want(t, "Put", s.Put(of("more")), api.OK)
	want(t, "Keep", s.Keep(id), api.OK)
	check()
	s = open(t, d)
	check()
}

// R3, R4: two stores know nothing of one another, on two disks of the same area.
func TestTwoDisks(t *testing.T) {
	d, s := storeOf(t, "a")
	x, k := storeOf(t, "b")
	want(t, "Put", s.Put(of("c")), api.OK)
	want(t, "Keep", k.Keep(), api.OK)
	wantTold(t, s, words("a c"))
	wantTold(t, k, nil)
	wantGood(t, d, words("a c"))
	wantGood(t, x, nil)
}
