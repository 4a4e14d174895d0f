package lru_test

import (
	"slices"
	"strconv"
	"strings"
	"testing"
	"unsafe"

	"tussock/lru"
)

// spoil writes into a list that was handed out, and into its spare room.
func spoil(l []string) {
	l = l[:cap(l)]
	for i := range l {
		l[i] = "spoilt"
	}
}

// R3: what was handed out is the caller's: no list of keys shares memory with the cache, or with another one.
func TestWhatIsHandedOutIsNew(t *testing.T) {
	c := filled(t, 10, "a", "1", "b", "2", "c", "3", "d", "4", "e", "5")
	one, other := c.Keys(), c.Keys()
	spoil(one)
	if want := []string{"e", "d", "c", "b", "a"}; !slices.Equal(other, want) {
		t.Errorf("%q; want %q", other, want)
	}
	wantAll(t, c, 10, "e", "d", "c", "b", "a")
	wantGet(t, c, "a", "1")

	gone, _ := c.Put("f", "678")
	before := c.Keys()
	spoil(gone)
	wantAll(t, c, 10, before...)
	again, _ := c.Put("g", "678")
	if want := []string{"d", "e"}; !slices.Equal(again, want) {
		t.Errorf("%q; want %q", again, want)
	}
	wantGet(t, c, "f", "678")
	wantGet(t, c, "a", "1")
	wantAll(t, c, 10, "a", "f", "g")
}

// R3: a list of keys that is handed in stays as it is, its spare room too, and is not kept.
func TestWhatIsHandedInStays(t *testing.T) {
	c := filled(t, 10, "a", "1", "b", "2", "c", "3", "d", "4", "e", "5")
	room := []string{"d", "x", "b", "d", "spare", "room"}
	wantDrop(t, c, 2, room[:4]...)
	if want := []string{"d", "x", "b", "d", "spare", "room"}; !slices.Equal(room, want) {
		t.Errorf("%q; want %q", room, want)
	}
	spoil(room)
	wantAll(t, c, 6, "e", "c", "a")
}

// lies tells whether a text that has bytes lies within another one's memory.
func lies(s, within string) bool {
	at, from := uintptr(unsafe.Pointer(unsafe.StringData(s))), uintptr(unsafe.Pointer(unsafe.StringData(within)))
	return at >= from && at < from+uintptr(len(within))
}

// R3: a piece of a greater text is copied: kept as it is, it would keep all of that.
func TestTextsAreNotKept(t *testing.T) {
	c := lru.New(100)
	for _, whole := range []string{strings.Repeat("key, text; ", 1000), strings.Repeat("key, more; ", 1000)} {
		wantPut(t, c, whole[:3], whole[5:9])
		val, _ := c.Get("key")
		if val != whole[5:9] || lies(val, whole) || lies(c.Keys()[0], whole) {
			t.Errorf("the text %q, or its key, lies within what was handed in", val)
		}
	}
}

// P7.1, R4: two caches know nothing of one another.
func TestTwoCachesInTurns(t *testing.T) {
	one, other := lru.New(6), lru.New(4)
	wantPut(t, one, "a", "1")
	wantPut(t, other, "a", "2")
	wantPut(t, one, "b", "3")
	wantNone(t, other, "b")
	wantGet(t, other, "a", "2")
	wantGet(t, one, "a", "1")
	wantPut(t, other, "c", "4")
	wantPut(t, other, "d", "5", "a")
	wantPut(t, one, "d", "6")
	wantAll(t, one, 6, "d", "a", "b")
	wantAll(t, other, 4, "d", "c")
	wantDrop(t, one, 2, "a", "d", "c")
	wantAll(t, one, 2, "b")
	wantAll(t, other, 4, "d", "c")
	wantBig(t, other, "e", "1234")
	wantPut(t, one, "e", "1234", "b")
	wantGet(t, other, "c", "4")
	wantAll(t, other, 4, "c", "d")
}

// P7.2 to P7.4: many texts: each call is done with long ahead of the others' number in steps.
func TestManyTexts(t *testing.T) {
	const many = 100000
	c := lru.New(many * 7)
	key := func(n int) string { return strconv.Itoa(1000000 + n) }
	for n := range many {
		wantPut(t, c, key(n), "")
	}
	for n := range many {
		wantGet(t, c, key(many-1-n), "")
	}
	for n := range many / 2 {
		wantPut(t, c, key(many+n), "", key(many-1-n))
	}
	for n := range many / 2 {
		wantDrop(t, c, 1, key(n))
	}
	if got := c.Bytes(); got != many/2*7 {
		t.Errorf("%d bytes; want %d", got, many/2*7)
	}
	keys := c.Keys()
	slices.Reverse(keys)
	for n, got := range keys {
		if want := key(many + n); got != want {
			t.Fatalf("the key %d is %q; want %q", n, got, want)
		}
	}
}
