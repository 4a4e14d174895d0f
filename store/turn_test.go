package store_test

import (
	"slices"
	"testing"

	"tussock/api"
	"tussock/disk"
	"tussock/store"
)

// turnObject turns the byte of an object of one byte, where it lies: among the last ones of some file.
func turnObject(t testing.TB, d *disk.Disk, text string) {
	t.Helper()
	for _, name := range filesOf(d, "own") {
		for at := range d.Size(name) {
			want(t, "Turn", d.Turn(name, at, 0x40), api.OK)
			if s, e := store.Open(now(d), "own"); e == api.OK {
				if _, e := s.Get(of(text).Id); e == api.ErrStoreCorrupt {
					return
				}
			}
			want(t, "Turn back", d.Turn(name, at, 0x40), api.OK)
		}
	}
	t.Fatalf("%q lies nowhere", text)
}

// hasTurned tells whether an object of a store is not its own any more.
func hasTurned(s *store.Store, has list) bool {
	return slices.ContainsFunc(has, func(text string) bool {
		_, e := s.Get(of(text).Id)
		return e == api.ErrStoreCorrupt
	})
}

// turnEach turns each byte of each of the area's files by some numbers, one at a time, and hands the disk to body, with its store: nil, if Open answers ErrStoreCorrupt.
func turnEach(t testing.TB, d *disk.Disk, numbers int, body func(x *disk.Disk, s *store.Store)) {
	t.Helper()
	x := now(d)
	for _, name := range filesOf(x, "own") {
		for at := range x.Size(name) {
			for i := range numbers {
				by := byte(1 + i*37)
				want(t, "Turn", x.Turn(name, at, by), api.OK)
				s, e := store.Open(x, "own")
				if (e != api.OK || s == nil) && (e != api.ErrStoreCorrupt || s != nil) {
					t.Fatalf("%s, byte %d turned: %v, %d", name, at, s, e)
				}
				body(x, s)
				want(t, "Turn back", x.Turn(name, at, by), api.OK)
			}
		}
	}
}

// checkTurned asks a store that Open gave behind a turned byte: it has the same ids, and of each its bytes, or ErrStoreCorrupt. It answers the texts of those that are right.
func checkTurned(t testing.TB, s *store.Store, has list) list {
	t.Helper()
	var right, all list
	for _, text := range has {
		all = append(all, of(text).Id)
		got, e := s.Get(of(text).Id)
		switch {
		case e == api.OK && got == text:
			right = append(right, text)
		case e != api.ErrStoreCorrupt || got != "":
			t.Fatalf("Get of %q: %q, %d", text, got, e)
		}
	}
	if got := s.Ids(); !slices.Equal(got, all.with()) {
		t.Fatalf("Ids: %x; want %x", got, all)
	}
	if s.Bytes() != has.bytes() {
		t.Fatalf("Bytes: %d; want %d", s.Bytes(), has.bytes())
	}
	return right
}

// P9.6: each byte of each file turned, in each state; in some by each number, since 1 and 37 times another one goes through all of them.
func TestTurn(t *testing.T) {
	for i, s := range states() {
		numbers := 5
		if i < 5 {
			numbers = 256
		}
		d, _ := s.make(t)
		turnEach(t, d, numbers, func(_ *disk.Disk, x *store.Store) {
			if x != nil {
				checkTurned(t, x, s.has)
			}
		})
	}
}

// P9.6: no byte of a file that counts is turned unseen: Open tells it, or Get of one object.
func TestTurnIsTold(t *testing.T) {
	for _, puts := range [][]string{{"hello"}, {"hello you", "and you"}, {"a", "b", "c"}} {
		d, s := storeOf(t, puts...)
		has := told(t, s)
		for range 2 {
			turnEach(t, d, 3, func(_ *disk.Disk, x *store.Store) {
				if x != nil && len(checkTurned(t, x, has)) != len(has)-1 {
					t.Errorf("%q: a byte is turned unseen, or more than one object is wrong", puts)
				}
			})
			want(t, "Pack", s.Pack(), api.OK)
		}
	}
}

// P9.6: a store that Open gives behind a turned byte goes on: Put, Keep and Pack do what they promise.
func TestTurnAndGoOn(t *testing.T) {
	for _, s := range states() {
		d, _ := s.make(t)
		turnEach(t, d, 1, func(x *disk.Disk, k *store.Store) {
			if k != nil {
				for _, c := range calls() {
					goOn(t, now(x), s, c)
				}
			}
		})
	}
}

// goOn makes a call on a store of which one object may be wrong, then mends it by taking that away and putting it again.
func goOn(t testing.TB, x *disk.Disk, s state, c call) {
	t.Helper()
	k := open(t, x)
	right := checkTurned(t, k, s.has)
	has := c.list(s.has)
	if e := c.do(k); e != api.OK {
		want(t, s.name+": "+c.name, e, api.ErrStoreCorrupt)
		if c.list(right).is(has) {
			t.Errorf("%s: %s: ErrStoreCorrupt, and all that is to stay is right", s.name, c.name)
		}
		has = s.has
	}
	right = checkTurned(t, k, has)
	checkTurned(t, open(t, now(x)), has)
	checkTurned(t, open(t, x.Crash(0, 0)), has)
	want(t, "Keep of what is right", k.Keep(idsOf(right)...), api.OK)
	wantList(t, x, right)
	want(t, "Put of the rest", k.Put(objectsOf(has)...), api.OK)
	wantList(t, x, has)
	wantList(t, x.Crash(0, 0), has)
}

func objectsOf(texts list) []api.Object {
	var out []api.Object
	for _, text := range texts {
		out = append(out, of(text))
	}
	return out
}

func idsOf(texts list) []string {
	var out []string
	for _, text := range texts {
		out = append(out, of(text).Id)
	}
	return out
}

// P9.6: bytes turned under a store that is in use: each object is read, or told to be wrong, and no call panics.
func TestTurnUnderAStore(t *testing.T) {
	for _, s := range states() {
		d, _ := s.make(t)
		for _, name := range filesOf(d, "own") {
			for at := range d.Size(name) {
				for _, c := range calls() {
					d, x := s.make(t)
					want(t, "Turn", d.Turn(name, at, 0x81), api.OK)
					checkTurned(t, x, s.has)
					has := s.has
					if e := c.do(x); e == api.OK {
						has = c.list(has)
					} else {
						want(t, s.name+": "+c.name, e, api.ErrStoreCorrupt)
					}
					checkTurned(t, x, has)
				}
			}
		}
	}
}

// P9.6: bytes turned with the power gone, and behind crashes of any kind.
func TestTurnLoose(t *testing.T) {
	for _, s := range states()[:7] {
		for _, c := range []call{put("x yy"), keep("c x a"), pack()} {
			for at := range opsOf(t, s, c) {
				d, x := s.make(t)
				d.CutAt(d.Ops() + at)
				want(t, c.name, c.do(x), api.ErrDiskOff)
				someCrashes(d, func(y *disk.Disk) {
					has := wantOneOf(t, y, []list{s.has, c.list(s.has)})
					turnEach(t, y, 2, func(_ *disk.Disk, z *store.Store) {
						if z != nil {
							checkTurned(t, z, has)
						}
					})
				})
			}
		}
	}
}
