package store_test

import (
	"strings"
	"testing"

	"tussock/api"
)

// P9.2: Keep of nothing, of some, of one twice, of all, of what is not there, of what can be no id.
func TestKeep(t *testing.T) {
	for _, s := range states() {
		for _, some := range []string{"", "a", "d", "a a a", "d a d", "a b c d", "d c b a x", "x", "x y z", "b c x b"} {
			d, x := s.make(t)
			want(t, "Keep", x.Keep(ids(some)...), api.OK)
			has := s.has.only(some)
			wantTold(t, x, has)
			wantGood(t, d, has)
			want(t, "Keep again", x.Keep(ids(some)...), api.OK)
			wantTold(t, x, has)
			want(t, "Put", x.Put(objects("c new")...), api.OK)
			wantGood(t, d, has.plus("c new"))
		}
		d, x := s.make(t)
		id := of("a").Id
		want(t, "Keep of no ids", x.Keep("", "a", id[:31], id+"\x00", strings.Repeat("\xFF", 32), strings.Repeat("x", 1000)), api.OK)
		wantTold(t, x, nil)
		wantGood(t, d, nil)
	}
}

// P9.2: Pack of a store without objects, of one file, of many; all stay.
func TestPack(t *testing.T) {
	for _, s := range states() {
		d, x := s.make(t)
		for range 3 {
			want(t, "Pack", x.Pack(), api.OK)
			wantTold(t, x, s.has)
			wantGood(t, d, s.has)
			if n := len(filesOf(d, "own")); n > 1 {
				t.Errorf("%s, packed: %d files", s.name, n)
			}
		}
	}
	d, s := storeOf(t)
	var has list
	for i := range 150 {
		text := strings.Repeat("p", i)
		want(t, "Put", s.Put(of(text)), api.OK)
		has = has.with(text)
	}
	want(t, "Pack", s.Pack(), api.OK)
	wantTold(t, s, has)
	wantTold(t, open(t, d.Crash(0, 0)), has)
	if got := filesOf(d.Crash(0, 0), "own"); len(got) != 1 {
		t.Errorf("packed: %q", got)
	}
}

// P9.2: what is not its own any more hinders that it stays, not that it goes; the store is as it was, and goes on.
func TestKeepOfTurned(t *testing.T) {
	for _, puts := range [][]string{{"a b c"}, {"a", "b", "c"}, {"a b", "c"}, {"c", "b a"}} {
		for _, bad := range []string{"a", "b", "c"} {
			rest := strings.Join(words("a b c").only(strings.Replace("a b c", bad, "", 1)), " ")
			for _, c := range []call{pack(), keep("a b c"), keep(bad), keep(bad + " x")} {
				d, s := storeOf(t, puts...)
				turnObject(t, d, bad)
				before := snapshot(d)
				want(t, c.name+" with "+bad+" turned", c.do(s), api.ErrStoreCorrupt)
				if snapshot(d) != before {
					t.Errorf("%s with %s turned changed the disk", c.name, bad)
				}
				wantNoGet(t, s, of(bad).Id, api.ErrStoreCorrupt)
				for _, word := range strings.Fields(rest) {
					wantGet(t, s, of(word).Id, word)
				}
				want(t, "Put", s.Put(of("d")), api.OK)
				want(t, "Keep of the others", s.Keep(ids(rest+" d")...), api.OK)
				wantTold(t, s, words(rest+" d"))
				wantGood(t, d, words(rest+" d"))
				want(t, "Put of "+bad+" anew", s.Put(of(bad)), api.OK)
				wantGood(t, d, words("a b c d"))
			}
		}
	}
}

// P9.2: of several errors the disk's is told ahead of bytes that are not their own any more, if it is met.
func TestKeepTellsTheDiskFirst(t *testing.T) {
	for _, c := range []call{pack(), keep("a b")} {
		d, s := storeOf(t, "a", "b")
		turnObject(t, d, "a")
		turnObject(t, d, "b")
		d.FailAt(d.Ops())
		want(t, c.name, c.do(s), api.ErrDiskIO)
		want(t, c.name, c.do(s), api.ErrStoreCorrupt)
		d.CutAt(0)
		want(t, c.name, c.do(s), api.ErrDiskOff)
	}
}

// P9.2: what stays stays for good: where a byte of a file is turned that is none of an object's, the file is laid anew.
func TestKeepMends(t *testing.T) {
	for _, s := range states() {
		for _, c := range []call{pack(), keep("a b c d")} {
			d, _ := s.make(t)
			for _, name := range filesOf(d, "own") {
				for at := range d.Size(name) {
					d, x := s.make(t)
					want(t, "Turn", d.Turn(name, at, 0x11), api.OK)
					switch e := c.do(x); e {
					case api.OK:
						wantTold(t, x, s.has)
						wantList(t, d, s.has)
						wantList(t, d.Crash(0, 0), s.has)
					case api.ErrStoreCorrupt:
						if !hasTurned(x, s.has) {
							t.Errorf("%s: %s: ErrStoreCorrupt, and all is right", s.name, c.name)
						}
					default:
						t.Errorf("%s: %s: %d", s.name, c.name, e)
					}
				}
			}
		}
	}
}

// P9.2: where all stay that are there, and in one file already, if it is a Pack, nothing is laid: that takes no room, either.
func TestNothingToDo(t *testing.T) {
	for _, puts := range [][]string{{}, {"a b"}, {"a", "b", "c"}} {
		d, s := storeOf(t, puts...)
		for _, c := range []call{keep("a b c x"), pack(), keep("c b a"), pack()} {
			before := snapshot(d)
			want(t, c.name, c.do(s), api.OK)
			if snapshot(d) != before && (c.name != "Pack()" || len(puts) < 3) {
				t.Errorf("%s of %q changed the disk", c.name, puts)
			}
			if c.name == "Pack()" {
				d.SetRoom(0)
				puts = nil
			}
		}
	}
}
