package table_test

import (
	"slices"
	"strings"
	"testing"

	"tussock/api"
	"tussock/disk"
	"tussock/table"
	"tussock/wal"
)

// The chapter's examples, as they stand in its table.
func TestExamples(t *testing.T) {
	d := newDisk(t, 100000)
	x := open(t, d)
	want(t, "Commit(a 1, b 2, ab 3)", x.Commit(put("a", "1"), put("b", "2"), put("ab", "3")), api.OK)
	if got := list(x.All("a")); !got.is(list{{Key: "a", Val: "1"}, {Key: "ab", Val: "3"}}) {
		t.Error("All(a):", got)
	}
	if x.Len() != 3 {
		t.Error("Len:", x.Len())
	}
	want(t, "Commit(a Gone, b 5, b 6)", x.Commit(gone("a"), put("b", "5"), put("b", "6")), api.OK)
	wantNone(t, x, "a")
	wantGet(t, x, "b", "6")
	wantTold(t, open(t, d.Crash(0, 0)), list{{Key: "ab", Val: "3"}, {Key: "b", Val: "6"}})
	want(t, "Commit of a put that is Gone with a value", x.Commit(api.Put{Key: "a", Val: "1", Gone: true}), api.ErrTableForm)
	want(t, "Commit of 2001 puts", x.Commit(make([]api.Put, 2001)...), api.ErrTableForm)
	if x, e := table.Open(d, strings.Repeat("n", 71)); x != nil || e != api.ErrTableForm {
		t.Error("Open of a name of 71 bytes:", x, e)
	}
}

func wantGet(t testing.TB, x *table.Table, key, val string) {
	t.Helper()
	if got, is := x.Get(key); !is || got != val {
		t.Errorf("Get(%q): %q, %t; want %q", key, got, is, val)
	}
}

func wantNone(t testing.TB, x *table.Table, key string) {
	t.Helper()
	if got, is := x.Get(key); is || got != "" {
		t.Errorf("Get(%q): %q, %t; want none", key, got, is)
	}
}

// P13.1: names, by length and by each byte: a log's, and no others.
func TestOpenNames(t *testing.T) {
	for n := range 100 {
		checkName(t, strings.Repeat("n", n), n >= 1 && n <= 70)
	}
	for c := range 256 {
		ok := c >= 33 && c <= 126
		one := string([]byte{byte(c)})
		checkName(t, one, ok)
		for _, around := range []string{"a", "~", "0123", strings.Repeat("x", 34)} {
			checkName(t, one+around, ok)
			checkName(t, around+one, ok)
			checkName(t, around+one+around, ok)
		}
	}
	for _, name := range []string{"", " ", "a b", "a\n", "\x00", "ä", "\xFF", strings.Repeat("~", 71), strings.Repeat("n", 80), strings.Repeat("n", 81)} {
		checkName(t, name, false)
	}
}

func checkName(t *testing.T, name string, ok bool) {
	t.Helper()
	d := newDisk(t, 10000)
	if _, _, e := wal.Open(d, name); (e == api.OK) != ok {
		t.Fatalf("a log's Open(%q): %d", name, e)
	}
	if ok {
		x := openName(t, d, name)
		wantTold(t, x, nil)
		want(t, "Commit", x.Commit(puts("a=1 b=2")...), api.OK)
		wantTold(t, openName(t, d.Crash(0, 0), name), has("a=1 b=2"))
		if d.Size(name) < 0 || len(filesOf(d, name)) != len(d.Names()) {
			t.Errorf("the table %q has the files %q", name, d.Names())
		}
		return
	}
	d.CutAt(0) // ErrTableForm comes ahead of the disk's error
	if x, e := table.Open(d, name); x != nil || e != api.ErrTableForm {
		t.Errorf("Open(%q): %v, %d; want nil, ErrTableForm", name, x, e)
	}
	if x, e := table.Open(nil, name); x != nil || e != api.ErrNil {
		t.Errorf("Open(nil, %q): %v, %d; want nil, ErrNil", name, x, e)
	}
}

// P13.1: a nil disk.
func TestOpenNilDisk(t *testing.T) {
	if x, e := table.Open(nil, "t"); x != nil || e != api.ErrNil {
		t.Errorf("Open(nil): %v, %d", x, e)
	}
}

// P13.1: a file that can't be read is told ahead of bytes that no table lays; without a file there is nothing to be read.
func TestOpenDisksErrors(t *testing.T) {
	for _, s := range states() {
		d, _ := s.make(t)
		for _, corrupt := range []bool{false, true} {
			if d.Size("t") < 0 {
				continue
			}
			if corrupt {
				want(t, "Turn", d.Turn("t", 1, 1), api.OK)
			}
			x := now(d)
			x.FailAt(0)
			wantNoTable(t, s.name+", Read failing", x, api.ErrDiskIO)
			want := api.OK
			if corrupt {
				want = api.ErrTableCorrupt
			}
			if _, e := table.Open(x, "t"); e != want {
				t.Errorf("%s: opened again: %d; want %d", s.name, e, want)
			}
			x = now(d)
			x.CutAt(0)
			wantNoTable(t, s.name+", with the power gone", x, api.ErrDiskOff)
			wantNoTable(t, s.name+", with the power gone still", x, api.ErrDiskOff)
		}
	}
	d := newDisk(t, 0)
	d.CutAt(0)
	wantNoTable(t, "new, with the power gone", d, api.ErrDiskOff)
	wantTold(t, open(t, &disk.Disk{}), nil)
}

func wantNoTable(t testing.TB, what string, d *disk.Disk, e api.Errno) {
	t.Helper()
	if x, got := table.Open(d, "t"); x != nil || got != e {
		t.Errorf("Open, %s: %v, %d; want nil, %d", what, x, got, e)
	}
}

// P13.1: Open only reads, whatever lies there; each table that it gives has the same.
func TestOpenOnlyReads(t *testing.T) {
	for _, s := range states() {
		d, x := s.make(t)
		before, loose := snapshot(d), d.Loose()
		for range 3 {
			wantTold(t, open(t, d), s.has)
		}
		wantTold(t, x, s.has)
		if snapshot(d) != before || d.Loose() != loose {
			t.Errorf("%s: Open changes the disk", s.name)
		}
		d.SetRoom(0)
		wantTold(t, open(t, d), s.has)
	}
}

// P13.3: Get, All and Len ask the disk for nothing, and change nothing.
func TestTellingAsksForNothing(t *testing.T) {
	for _, s := range states() {
		d, x := s.make(t)
		ops, before := d.Ops(), snapshot(d)
		d.CutAt(ops)
		wantTold(t, x, s.has)
		wantNone(t, x, "none")
		x.All("a")
		if d.Ops() != ops || snapshot(d) != before {
			t.Errorf("%s: telling what there is takes %d operations", s.name, d.Ops()-ops)
		}
	}
}

// P13.3, P13.2: of a nil table nothing; likewise of one that Open did not give.
func TestNilTable(t *testing.T) {
	for _, x := range []*table.Table{nil, {}} {
		for _, key := range []string{"", "a"} {
			wantNone(t, x, key)
			if all := x.All(key); len(all) != 0 {
				t.Error("All:", all)
			}
		}
		if x.Len() != 0 {
			t.Error("Len:", x.Len())
		}
		want(t, "Commit()", x.Commit(), api.ErrNil)
		want(t, "Commit(a)", x.Commit(put("a", "1")), api.ErrNil)
		want(t, "Commit of a wrong put", x.Commit(put(strings.Repeat("k", 2049), "")), api.ErrNil)
		want(t, "Commit of too much", x.Commit(make([]api.Put, 2001)...), api.ErrNil)
	}
}

// P13.3: All of each beginning of each key, and of texts that no key begins with, against a plain look.
func TestAll(t *testing.T) {
	keys := []string{"", "a", "aa", "aaa", "aab", "ab", "b", "a/", "a/b", "a/b/c", "a0", "a\x00", "a\x00b", "a\xFF", "\xFF", "\xFF\xFF", "\x00", "ä", "Z", "zz", " "}
	_, x := tableOf(t)
	var all list
	for i, k := range keys {
		val := strings.Repeat("v", i)
		want(t, "Commit", x.Commit(put(k, val)), api.OK)
		all = all.with(put(k, val))
	}
	wantTold(t, x, all)
	texts := []string{"c", "a/b/c/", "aaaa", "A", "\xFE", "\x00\x00", "a\xFFx", "\xC3", "zzz", strings.Repeat("a", 3000)}
	for _, k := range keys {
		for n := range len(k) + 1 {
			texts = append(texts, k[:n])
		}
	}
	for _, prefix := range texts {
		var wanted list
		for _, p := range all {
			if strings.HasPrefix(p.Key, prefix) {
				wanted = append(wanted, p)
			}
		}
		if got := list(x.All(prefix)); !got.is(wanted) {
			t.Errorf("All(%q): %q; want %q", prefix, got, wanted)
		}
	}
}

// P13.3: pairs rise by their bytes: a key that begins another one stands ahead of it.
func TestOrder(t *testing.T) {
	_, x := tableOf(t)
	rising := []string{"", "\x00", "\x00\x00", "\x01", "A", "B", "a", "a\x00", "a ", "a-", "a/", "aa", "ab", "b", "\x7F", "\x80", "é", "\xFF", "\xFF\x00"}
	var all []api.Put
	for _, k := range rising {
		all = append(all, put(k, k))
	}
	slices.Reverse(all)
	want(t, "Commit", x.Commit(all...), api.OK)
	for i, p := range x.All("") {
		if p.Key != rising[i] || p.Val != p.Key {
			t.Errorf("%d: %q; want %q", i, p, rising[i])
		}
	}
}

// P13.3: Get of keys that are none's, beside those that are.
func TestGet(t *testing.T) {
	_, x := tableOf(t, "a=1 ab=2 b=")
	wantGet(t, x, "a", "1")
	wantGet(t, x, "ab", "2")
	wantGet(t, x, "b", "")
	for _, key := range []string{"", "A", "a ", "abc", "ba", "c", "1", "a\x00", strings.Repeat("a", 3000)} {
		wantNone(t, x, key)
	}
	want(t, "Commit", x.Commit(put("", "of the empty key")), api.OK)
	wantGet(t, x, "", "of the empty key")
	want(t, "Commit", x.Commit(gone("")), api.OK)
	wantNone(t, x, "")
}
