package store_test

import (
	"strings"
	"testing"

	"tussock/api"
	"tussock/disk"
	"tussock/store"
)

// checkBytes holds what an area's files have against the most that they may have, behind so many calls.
func checkBytes(t testing.TB, d *disk.Disk, area string, has list, calls int) {
	t.Helper()
	most := 100 + 60*len(has) + 2*has.bytes() + 60*calls
	if n := bytesOf(d, area); n > most {
		t.Errorf("%d bytes of %d objects behind %d calls; at most %d", n, len(has), calls, most)
	}
}

// mostOps is how many operations a call may take, on an area of so many files: one that Keep or Pack is, or another one.
func mostOps(files, objects int, keeps bool) int {
	if keeps {
		return 20 + 2*files + 3*objects
	}
	return 20 + 2*files
}

func isKeep(c call) bool { return !strings.HasPrefix(c.name, "Put") }

// P9.5: how many files, bytes and operations there are, behind each call of long rows of them.
func TestBounds(t *testing.T) {
	for start := range calls() {
		d := newDisk(t, ample)
		s := open(t, d)
		var has list
		for i := range 100 {
			all := append(calls(), put(strings.Repeat("more ", i%3)+strings.Repeat("z", i)), put(strings.Repeat("y", i*i%999)))
			c := all[(i*i+i*start+start)%len(all)]
			files, ops := len(filesOf(d, "own")), d.Ops()
			want(t, c.name, c.do(s), api.OK)
			if n, most := d.Ops()-ops, mostOps(files, len(has), isKeep(c)); n > most {
				t.Errorf("%s takes %d operations, with %d files and %d objects", c.name, n, files, len(has))
			}
			after := c.list(has)
			if n := d.Ops() - ops; !isKeep(c) && after.is(has) && n != 0 {
				t.Errorf("%s of what is there takes %d operations", c.name, n)
			}
			went := isKeep(c) && !after.is(has)
			if n := len(filesOf(d, "own")); (c.name == "Pack()" || went) && n > 1 {
				t.Errorf("%d files behind %s", n, c.name)
			}
			has = after
			checkBytes(t, d, "own", has, i+1)
			if i%7 == 6 {
				ops := d.Ops()
				s = open(t, d)
				if n := d.Ops() - ops; n > mostOps(len(filesOf(d, "own")), 0, false) {
					t.Errorf("Open takes %d operations", n)
				}
			}
			checkGets(t, d, s, has)
		}
	}
}

func checkGets(t *testing.T, d *disk.Disk, s *store.Store, has list) {
	t.Helper()
	for _, text := range has {
		ops := d.Ops()
		wantGet(t, s, of(text).Id, text)
		if n := d.Ops() - ops; n > 20 {
			t.Errorf("Get takes %d operations", n)
		}
	}
}

// P9.5: in each state that no error led to.
func TestBoundsInStates(t *testing.T) {
	for _, s := range states()[:10] {
		for _, c := range calls() {
			d, x := s.make(t)
			files, ops := len(filesOf(d, "own")), d.Ops()
			want(t, c.name, c.do(x), api.OK)
			if n := d.Ops() - ops; n > mostOps(files, len(s.has), isKeep(c)) {
				t.Errorf("%s: %s takes %d operations", s.name, c.name, n)
			}
			has := c.list(s.has)
			if n := len(filesOf(d, "own")); n > 1 && (c.name == "Pack()" || isKeep(c) && !has.is(s.has)) {
				t.Errorf("%s: %d files behind %s", s.name, n, c.name)
			}
			checkBytes(t, d, "own", has, 1) // of whatever calls there were, one is surely counted
			checkBytes(t, d.Crash(0, 0), "own", has, 1)
		}
	}
}

// P9.5: many files, as many as there were Puts; each call still ends within its bounds.
func TestBoundsOfManyFiles(t *testing.T) {
	const many = 300
	d, s := storeOf(t)
	var has list
	for i := range many {
		text := strings.Repeat("f", i)
		want(t, "Put", s.Put(of(text)), api.OK)
		has = has.with(text)
		checkBytes(t, d, "own", has, i+1)
	}
	files := len(filesOf(d, "own"))
	for _, c := range []call{put("one more"), keep("one"), pack()} {
		x := d.Crash(0, 0)
		k := open(t, x)
		if x.Ops() > mostOps(files, 0, false) {
			t.Errorf("Open takes %d operations, with %d files", x.Ops(), files)
		}
		ops := x.Ops()
		want(t, c.name, c.do(k), api.OK)
		if n := x.Ops() - ops; n > mostOps(files, many, isKeep(c)) {
			t.Errorf("%s takes %d operations, with %d files", c.name, n, files)
		}
		if isKeep(c) && len(filesOf(x, "own")) > 1 {
			t.Errorf("%d files behind %s", len(filesOf(x, "own")), c.name)
		}
	}
}

// P9.5: objects that went take up nothing any more, however often they come and go.
func TestComingAndGoing(t *testing.T) {
	d, s := storeOf(t, "stays")
	big := of(strings.Repeat("b", api.MaxObject))
	for range 50 {
		want(t, "Put", s.Put(big), api.OK)
		want(t, "Keep", s.Keep(ids("stays")...), api.OK)
		checkBytes(t, d, "own", words("stays"), 1)
	}
	if got := filesOf(d, "own"); len(got) != 1 {
		t.Errorf("the files %q", got)
	}
}

// needed is the least room with which a call does on a copy of a disk what it is to do.
func needed(t testing.TB, d *disk.Disk, c call) int {
	t.Helper()
	most := bytesOf(d, "")
	for _, text := range append(readArea(t, d, "own"), "x", "yy", "a", "b") {
		most += 100 + len(text)
	}
	for room := range most + 200 {
		x := now(d)
		x.SetRoom(room)
		s := open(t, x)
		e := c.do(s)
		if e == api.OK {
			return room
		}
		want(t, c.name, e, api.ErrDiskFull)
	}
	t.Fatalf("%s: no room does", c.name)
	return 0
}

// P9.4: room that is just enough, and one byte less.
func TestRoom(t *testing.T) {
	for _, s := range states() {
		for _, c := range calls() {
			d, _ := s.make(t)
			room := needed(t, d, c)
			x := now(d)
			k := open(t, x)
			x.SetRoom(room - 1)
			if room > 0 {
				want(t, s.name+": "+c.name+" with one byte less", c.do(k), api.ErrDiskFull)
				wantTold(t, k, s.has)
				wantGood(t, x, s.has)
			}
			x.SetRoom(room)
			want(t, s.name+": "+c.name+" with just the room", c.do(k), api.OK)
			wantTold(t, k, c.list(s.has))
			wantGood(t, x, c.list(s.has))
			if n := bytesOf(x, ""); n > room {
				if c.list(s.has).is(s.has) { // nothing was laid: there were as many
					continue
				}
				t.Errorf("%s: %s: %d bytes in room for %d", s.name, c.name, n, room)
			}
		}
	}
}

// P9.4: what a crash or a failure left takes no room from a Put.
func TestRoomBehindFailures(t *testing.T) {
	for _, s := range states() {
		d, x := s.make(t)
		others := max(d.Size("other"), 0)
		want(t, "Put", x.Put(of("x")), api.OK)
		room := bytesOf(d, "own") + others
		d, x = s.make(t)
		d.SetRoom(room)
		want(t, s.name+": Put with just the room", x.Put(of("x")), api.OK)
		wantGood(t, d, s.has.plus("x"))
	}
}

// P9.5: where nothing hinders it, a call that failed leaves nothing behind.
func TestNothingIsLeft(t *testing.T) {
	for _, c := range []call{put("x yy"), keep("c x a"), pack(), keep("")} {
		for at := range opsOf(t, states()[2], c) {
			d, x := states()[2].make(t)
			files, bytes := len(filesOf(d, "own")), bytesOf(d, "own")
			d.FailAt(d.Ops() + at)
			if c.do(x) == api.OK {
				continue
			}
			if len(filesOf(d, "own")) != files || bytesOf(d, "own") != bytes || d.Loose() != 0 {
				t.Errorf("%s failing at %d: %q, %d bytes; it were %d, and %d", c.name, at, filesOf(d, "own"), bytesOf(d, "own"), files, bytes)
			}
		}
	}
}
