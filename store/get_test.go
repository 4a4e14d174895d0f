package store_test

import (
	"slices"
	"strings"
	"testing"

	"tussock/api"
	"tussock/store"
)

func wantGet(t testing.TB, s *store.Store, id, want string) {
	t.Helper()
	if got, e := s.Get(id); got != want || e != api.OK {
		t.Errorf("Get(%x): %.20q, %d; want %.20q", id, got, e, want)
	}
}

func wantNoGet(t testing.TB, s *store.Store, id string, want api.Errno) {
	t.Helper()
	if got, e := s.Get(id); got != "" || e != want {
		t.Errorf("Get(%x): %.20q, %d; want none, %d", id, got, e, want)
	}
}

// P9.3: what never was, what went, what is there; ids that can be no object's.
func TestGetAndHas(t *testing.T) {
	_, s := storeOf(t, "a b", "c")
	want(t, "Keep", s.Keep(ids("a c")...), api.OK)
	for _, word := range []string{"a", "c"} {
		wantGet(t, s, of(word).Id, word)
		if !s.Has(of(word).Id) {
			t.Errorf("has no %s", word)
		}
	}
	id := of("a").Id
	for _, none := range []string{of("b").Id, of("x").Id, of("").Id, "", "a", id[:31], id + "\x00", id[1:], id + id, strings.Repeat("\x00", 32), strings.Repeat("\xFF", 32), strings.Repeat("x", 1<<16)} {
		wantNoGet(t, s, none, api.ErrMissing)
		if s.Has(none) {
			t.Errorf("has %.40x", none)
		}
	}
	want(t, "Put", s.Put(of("b"), of("")), api.OK)
	wantGet(t, s, of("b").Id, "b")
	wantGet(t, s, of("").Id, "")
}

// P9.3: Ids rise bytewise, also where bytes are above 127, and are as many as there are objects.
func TestIdsRise(t *testing.T) {
	_, s := storeOf(t)
	var all []string
	for i := range 600 {
		o := of(strings.Repeat("x", i))
		want(t, "Put", s.Put(o), api.OK)
		all = append(all, o.Id)
	}
	slices.SortFunc(all, func(a, b string) int { return slices.Compare([]byte(a), []byte(b)) })
	if got := s.Ids(); !slices.Equal(got, all) {
		t.Error("Ids are not all, or do not rise")
	}
	if all[0][0] >= 128 || all[599][0] < 128 {
		t.Error("no ids of both kinds")
	}
	if got := s.Bytes(); got != 600*599/2 {
		t.Errorf("Bytes: %d", got)
	}
	want(t, "Pack", s.Pack(), api.OK)
	if got := s.Ids(); !slices.Equal(got, all) {
		t.Error("packed, Ids are not all, or do not rise")
	}
}

// P9.3: what is asked of a store changes neither it nor its disk; Get alone asks the disk.
func TestAskingChangesNothing(t *testing.T) {
	for _, s := range states() {
		d, x := s.make(t)
		before := snapshot(d)
		for range 3 {
			wantTold(t, x, s.has)
			wantNoGet(t, x, of("none").Id, api.ErrMissing)
		}
		if snapshot(d) != before {
			t.Errorf("%s: the disk was changed", s.name)
		}
		ops := d.Ops()
		x.Ids()
		x.Bytes()
		x.Has(of("a").Id)
		wantNoGet(t, x, of("none").Id, api.ErrMissing)
		if d.Ops() != ops {
			t.Errorf("%s: it takes %d operations", s.name, d.Ops()-ops)
		}
	}
}

// P9.3: each of the disk's errors that a read may have; behind it the object is read. What is not there is told ahead of them.
func TestGetFails(t *testing.T) {
	for _, s := range states() {
		d, x := s.make(t)
		for _, word := range s.has {
			d.FailAt(d.Ops())
			wantNoGet(t, x, of(word).Id, api.ErrDiskIO)
			wantGet(t, x, of(word).Id, word)
		}
		d.FailAt(d.Ops())
		wantNoGet(t, x, of("none").Id, api.ErrMissing)
		d.CutAt(0)
		for _, word := range s.has {
			wantNoGet(t, x, of(word).Id, api.ErrDiskOff)
			if !x.Has(of(word).Id) {
				t.Errorf("%s: has no %s", s.name, word)
			}
		}
		wantNoGet(t, x, of("none").Id, api.ErrMissing)
		if n := len(x.Ids()); n != len(s.has) || x.Bytes() != s.has.bytes() {
			t.Errorf("%s: %d ids, %d bytes", s.name, n, x.Bytes())
		}
	}
}

// P9.3: an object whose bytes are not its own any more, or whose file is not there any more.
func TestGetOfTurned(t *testing.T) {
	d, s := storeOf(t, "hello other", "third")
	at := d.Size("own.0") - len("hello"+"other") // the objects' bytes stand at the end
	for i := range len("hello" + "other") {
		want(t, "Turn", d.Turn("own.0", at+i, 0x20), api.OK)
		wrong := 0
		for _, word := range []string{"hello", "other", "third"} {
			if got, e := s.Get(of(word).Id); e == api.ErrStoreCorrupt && got == "" {
				wrong++
			} else {
				wantGet(t, s, of(word).Id, word)
			}
		}
		if wrong != 1 || len(s.Ids()) != 3 || s.Bytes() != 15 {
			t.Errorf("byte %d turned: %d objects are wrong", i, wrong)
		}
		want(t, "Turn back", d.Turn("own.0", at+i, 0x20), api.OK)
		wantTold(t, s, words("hello other third"))
	}
	want(t, "Remove", d.Remove("own.0"), api.OK)
	wantNoGet(t, s, of("hello").Id, api.ErrStoreCorrupt)
	wantGet(t, s, of("third").Id, "third")
	want(t, "Append", d.Append("own.0", []byte("short")), api.OK)
	wantNoGet(t, s, of("hello").Id, api.ErrStoreCorrupt)
}
