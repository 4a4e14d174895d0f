package store_test

import (
	"slices"
	"strings"
	"testing"

	"tussock/api"
	"tussock/disk"
	"tussock/store"
)

// The chapter's examples, as they stand in its table.
func TestExamples(t *testing.T) {
	d := newDisk(t, 10000)
	s := open(t, d)
	x, y, z := of("x"), of("y"), of("z")
	want(t, "Put(x, y, x)", s.Put(x, y, x), api.OK)
	if n := len(s.Ids()); n != 2 {
		t.Errorf("%d ids", n)
	}
	wantGet(t, s, x.Id, "x")
	want(t, "Put(z, and y with x's Id)", s.Put(z, api.Object{Id: x.Id, Bytes: "y"}), api.ErrStoreForm)
	wantNoGet(t, s, z.Id, api.ErrMissing)
	want(t, "Keep(y's id, z's id)", s.Keep(y.Id, z.Id), api.OK)
	wantTold(t, s, list{"y"})
	wantTold(t, open(t, d.Crash(0, 0)), list{"y"})
	twin := d.Crash(0, 0)
	want(t, "the twin's Put(z)", open(t, twin).Put(z), api.OK)
	d = d.Crash(0, 0)
	s = open(t, d)
	from := d.Ops()
	d.CutAt(twin.Ops() - 1)
	want(t, "Put(z)", s.Put(z), api.ErrDiskOff)
	if d.Ops() == from {
		t.Error("Put(z) takes one operation alone")
	}
	wantTold(t, open(t, d.Crash(d.Loose(), 0)), list{"y", "z"})
	wantOneOf(t, d.Crash(0, 0), []list{{"y"}, {"y", "z"}})
	if s, e := store.Open(d, "Own"); s != nil || e != api.ErrStoreForm {
		t.Error("Open(Own):", s, e)
	}
}

// P9.1: areas, by length and by each byte.
func TestOpenAreas(t *testing.T) {
	for n := range 90 {
		checkArea(t, strings.Repeat("n", n), n >= 1 && n <= 20)
	}
	for c := range 256 {
		ok := c >= 'a' && c <= 'z' || c >= '0' && c <= '9'
		for _, around := range []string{"", "a", "zz", "0123456", strings.Repeat("x", 9)} {
			checkArea(t, string([]byte{byte(c)})+around, ok)
			checkArea(t, around+string([]byte{byte(c)}), ok)
			checkArea(t, around+string([]byte{byte(c)})+around, ok)
		}
	}
	for _, area := range []string{"Own", "oWn", "own.", ".own", "o.n", ".", "o n", "own\n", "ówn", "own\x80", "\xFF", "o\x00n", "own~", "../own", strings.Repeat("Z", 20), strings.Repeat("9", 21)} {
		checkArea(t, area, false)
	}
	for _, area := range []string{"a", "z", "0", "9", "own", "0own", "own9", "00", strings.Repeat("z", 20), strings.Repeat("0", 20)} {
		checkArea(t, area, true)
	}
}

func checkArea(t *testing.T, area string, ok bool) {
	t.Helper()
	d := newDisk(t, 1000)
	if !ok {
		if s, e := store.Open(d, area); s != nil || e != api.ErrStoreForm {
			t.Errorf("Open(%q): %v, %d; want nil, ErrStoreForm", area, s, e)
		}
		d.CutAt(0)
		_, e := store.Open(d, area)
		want(t, "Open, the power gone, too", e, api.ErrStoreForm)
		_, e = store.Open(nil, area)
		want(t, "Open of no disk", e, api.ErrNil)
		return
	}
	s := openArea(t, d, area)
	wantTold(t, s, nil)
	want(t, "Put", s.Put(of("a"), of("b")), api.OK)
	want(t, "Put", s.Put(of("c")), api.OK)
	want(t, "Keep", s.Keep(ids("b c")...), api.OK)
	want(t, "Put", s.Put(of("d")), api.OK)
	want(t, "Pack", s.Pack(), api.OK)
	if got := readArea(t, d.Crash(0, 0), area); !got.is(words("b c d")) {
		t.Errorf("%q has %q", area, got)
	}
	if got := filesOf(d, area); !slices.Equal(got, d.Names()) || len(got) == 0 {
		t.Errorf("%q has the files %q", area, d.Names())
	}
}

// P9.1 to P9.3: nil disks, nil stores, one that Open did not give.
func TestNil(t *testing.T) {
	if s, e := store.Open(nil, "own"); s != nil || e != api.ErrNil {
		t.Error("Open of no disk:", s, e)
	}
	for _, s := range []*store.Store{nil, new(store.Store)} {
		want(t, "Put", s.Put(), api.ErrNil)
		want(t, "Put", s.Put(of("a")), api.ErrNil)
		want(t, "Put of what is not right", s.Put(api.Object{}), api.ErrNil)
		want(t, "Keep", s.Keep(), api.ErrNil)
		want(t, "Keep", s.Keep(ids("a b")...), api.ErrNil)
		want(t, "Pack", s.Pack(), api.ErrNil)
		wantNoGet(t, s, of("a").Id, api.ErrNil)
		wantNoGet(t, s, "", api.ErrNil)
		if s.Has(of("a").Id) || s.Has("") {
			t.Error("Has")
		}
		if got := s.Ids(); len(got) != 0 {
			t.Errorf("Ids: %x", got)
		}
		if n := s.Bytes(); n != 0 {
			t.Error("Bytes:", n)
		}
	}
}

// P9.1: an area without files has a store without objects, whatever others have; Open makes no file.
func TestOpenOfNothing(t *testing.T) {
	d := newDisk(t, 1000)
	others := []string{"own", "ow", "own2.0", "owner.0", "Own.0", "o.wn", "own_0", "own-.0", "x.own.0", "~own.0"}
	for _, name := range others {
		want(t, "Append", d.Append(name, []byte("xyz")), api.OK)
	}
	names, loose := d.Names(), d.Loose()
	s := open(t, d)
	wantTold(t, s, nil)
	if !slices.Equal(d.Names(), names) || d.Loose() != loose {
		t.Error("Open made", d.Names())
	}
	for _, c := range []call{put("a b"), put("c"), keep("a c"), put("d"), pack(), keep("")} {
		want(t, c.name, c.do(s), api.OK)
	}
	for _, name := range others {
		if b, e := d.Read(name); string(b) != "xyz" || e != api.OK {
			t.Errorf("Read(%s): %q, %d", name, b, e)
		}
	}
}

// P9.1: with the power gone an area without files has none that can't be read.
func TestOpenOfNothingWithoutPower(t *testing.T) {
	d := newDisk(t, 1000)
	d.CutAt(0)
	s := open(t, d)
	wantTold(t, s, nil)
	want(t, "Put of none", s.Put(), api.OK)
	want(t, "Put", s.Put(of("a")), api.ErrDiskOff)
}

// P9.1: Open only reads, in whatever state the area is, and answers the same again.
func TestOpenOnlyReads(t *testing.T) {
	for _, s := range states() {
		d, x := s.make(t)
		wantTold(t, x, s.has)
		before, loose := snapshot(d), d.Loose()
		for range 2 {
			wantTold(t, open(t, d), s.has)
		}
		if snapshot(d) != before || d.Loose() != loose {
			t.Errorf("%s: Open changed the disk", s.name)
		}
	}
}

// P9.1: each read of Open failing, and the power gone at it; behind that it goes on.
func TestOpenFails(t *testing.T) {
	for _, s := range states() {
		d, _ := s.make(t)
		d = now(d)
		open(t, d)
		reads := d.Ops()
		if len(filesOf(d, "own")) > 0 && reads == 0 {
			t.Errorf("%s: Open reads nothing", s.name)
		}
		for at := range reads {
			x := now(d)
			x.CutAt(at)
			if s, e := store.Open(x, "own"); s != nil || e != api.ErrDiskOff {
				t.Errorf("Open with the power gone: %v, %d", s, e)
			}
			x = now(d)
			x.FailAt(at)
			if s, e := store.Open(x, "own"); s != nil || e != api.ErrDiskIO {
				t.Errorf("Open failing: %v, %d", s, e)
			}
			k := open(t, x)
			wantTold(t, k, s.has)
			want(t, "Put", k.Put(of("more")), api.OK)
			wantGood(t, x, s.has.plus("more"))
		}
	}
}

// P9.1: where a file can't be read, that is told ahead of bytes that no store lays, wherever these stand.
func TestOpenTellsTheDiskFirst(t *testing.T) {
	for _, name := range []string{"own.0", "own.1", "own.2", "own.x"} {
		d, _ := storeOf(t, "a", "b", "c")
		if d.Turn(name, 1, 1) != api.OK {
			want(t, "Append", d.Append(name, []byte("no store's")), api.OK)
		}
		_, e := store.Open(d, "own")
		want(t, name+" turned", e, api.ErrStoreCorrupt)
		d.FailAt(d.Ops() + 3) // at the second file, or the third, if the first one's head is turned
		_, e = store.Open(d, "own")
		want(t, name+" turned, another one's read failing", e, api.ErrDiskIO)
	}
}

// P9.1 to P9.3: areas of which one is the beginning of the other, on one disk, each as if alone.
func TestTwoAreas(t *testing.T) {
	for _, areas := range [][2]string{{"own", "own2"}, {"o", "ow"}, {"own", "near"}, {"0", "00"}, {strings.Repeat("n", 19), strings.Repeat("n", 20)}} {
		d := newDisk(t, ample)
		stores := []*store.Store{openArea(t, d, areas[0]), openArea(t, d, areas[1])}
		twins := []*disk.Disk{newDisk(t, ample), newDisk(t, ample)}
		alone := []*store.Store{openArea(t, twins[0], areas[0]), openArea(t, twins[1], areas[1])}
		has := []list{nil, nil}
		for i := range 60 {
			k, all := i*7%5%2, calls()
			c := all[i*11%len(all)]
			want(t, c.name, c.do(stores[k]), api.OK)
			want(t, c.name, c.do(alone[k]), api.OK)
			has[k] = c.list(has[k])
			for j, area := range areas {
				wantTold(t, stores[j], has[j])
				for _, x := range []*disk.Disk{d, d.Crash(0, 0)} {
					if got := readArea(t, x, area); !got.is(has[j]) {
						t.Fatalf("%s has %q; want %q", area, got, has[j])
					}
				}
				if got, want := filesOf(d, area), filesOf(twins[j], area); !slices.Equal(got, want) {
					t.Errorf("%s has the files %q; alone %q", area, got, want)
				}
			}
		}
		for j, area := range areas { // one of them gone, the other one stays
			x := now(d)
			for _, name := range filesOf(x, area) {
				want(t, "Remove", x.Remove(name), api.OK)
			}
			if got := readArea(t, x, areas[1-j]); !got.is(has[1-j]) {
				t.Errorf("%s has %q; want %q", areas[1-j], got, has[1-j])
			}
		}
	}
}

// R4: what a store does hangs on its calls and its disk alone: twice the same, twice the same bytes.
func TestTheSameTwice(t *testing.T) {
	run := func() string {
		var all strings.Builder
		for _, s := range states() {
			for _, c := range calls() {
				d, x := s.make(t)
				want(t, c.name, c.do(x), api.OK)
				all.WriteString(snapshot(d))
			}
		}
		return all.String()
	}
	if run() != run() {
		t.Error("not the same twice")
	}
}
