package wal_test

import (
	"strings"
	"testing"

	"tussock/api"
	"tussock/disk"
	"tussock/wal"
)

// mostOps is how many operations a call may take.
const mostOps = 12

// checkBytes holds what Bytes tells against the most that the groups may have.
func checkBytes(t testing.TB, l *wal.Log, groups [][]string) {
	t.Helper()
	most := 0
	for _, g := range groups {
		most += 30
		for _, r := range g {
			most += 10 + len(r)
		}
	}
	n := l.Bytes()
	if len(groups) == 0 && n != 0 || len(groups) > 0 && (n <= 0 || n > 100+most) {
		t.Errorf("Bytes of %d groups: %d; at most %d and 100", len(groups), n, most)
	}
}

func split(has list) [][]string {
	var groups [][]string
	for _, g := range has {
		groups = append(groups, records(g))
	}
	return groups
}

// P5.4: how many operations each call takes, and what Bytes tells, in each state and behind many calls.
func TestOperationsAndBytes(t *testing.T) {
	for _, s := range states() {
		for _, c := range calls() {
			d, l := s.make(t)
			has := s.has
			checkBytes(t, l, split(has))
			for i := range 12 {
				g := strings.Repeat("x,", i) + strings.Repeat("y", i*i)
				before := d.Ops()
				want(t, c.name, c.do(l, records(g)...), api.OK)
				if n := d.Ops() - before; n > mostOps {
					t.Errorf("%s: %s takes %d operations", s.name, c.name, n)
				}
				has = c.list(has, g)
				checkBytes(t, l, split(has))
			}
			before := d.Ops()
			k := open(t, d, "l")
			if n := d.Ops() - before; n > mostOps {
				t.Errorf("Open takes %d operations", n)
			}
			if k.Bytes() != l.Bytes() {
				t.Errorf("%s: Bytes %d; opened anew %d", s.name, l.Bytes(), k.Bytes())
			}
		}
	}
}

// P5.4: Open takes no more operations for many groups.
func TestOpenOfManyGroups(t *testing.T) {
	d := newDisk(t, 1<<20)
	l := open(t, d, "l")
	var has list
	for i := range 1000 {
		g := strings.Repeat("z", i%3)
		want(t, "Append", l.Append(records(g)...), api.OK)
		has = has.plus(g)
	}
	checkBytes(t, l, split(has))
	x := d.Crash(0, 0)
	_, groups, e := wal.Open(x, "l")
	if e != api.OK || !told(groups).is(has) || x.Ops() > mostOps {
		t.Errorf("Open: %d groups, %d, %d operations", len(groups), e, x.Ops())
	}
}

// P5.4: calls take no more operations when some of them fail.
func TestOperationsOfFailingCalls(t *testing.T) {
	for _, s := range states() {
		for _, c := range calls() {
			for at := range mostOps {
				d, l := s.make(t)
				for i := at; i < 2*mostOps; i++ {
					d.FailAt(d.Ops() + i)
				}
				before := d.Ops()
				c.do(l, "x")
				if n := d.Ops() - before; n > mostOps {
					t.Errorf("%s: failing from %d on, %s takes %d operations", s.name, at, c.name, n)
				}
			}
		}
	}
}

// P5.4: Append needs as much room as Bytes tells behind it, from the first group on.
func TestRoomOfAppend(t *testing.T) {
	groups := []string{"a,b", "", "ccc", ",", strings.Repeat("d", 100), "e"}
	_, twin := logOf(t)
	d := newDisk(t, 0)
	l := open(t, d, "l")
	var has list
	for _, g := range groups {
		want(t, "Append", twin.Append(records(g)...), api.OK)
		d.SetRoom(twin.Bytes() - 1)
		before := snapshot(t, d)
		want(t, "Append with one byte less", l.Append(records(g)...), api.ErrDiskFull)
		if snapshot(t, d) != before {
			t.Error("a full disk was changed")
		}
		wantGood(t, d, has...)
		d.SetRoom(twin.Bytes())
		want(t, "Append with just the room", l.Append(records(g)...), api.OK)
		has = has.plus(g)
		wantGood(t, d, has...)
		if l.Bytes() != twin.Bytes() {
			t.Errorf("Bytes: %d; the twin's %d", l.Bytes(), twin.Bytes())
		}
	}
	x := d.Crash(0, 0)
	k := open(t, x, "l")
	want(t, "twin's Append", twin.Append("f"), api.OK)
	x.SetRoom(twin.Bytes() - 1)
	want(t, "opened, with one byte less", k.Append("f"), api.ErrDiskFull)
	x.SetRoom(twin.Bytes())
	want(t, "opened, with just the room", k.Append("f"), api.OK)
	wantGood(t, x, has.plus("f")...)
}

// P5.4: Reset needs room for the new group beside all that the log has.
func TestRoomOfReset(t *testing.T) {
	for _, g := range []string{"", "x", strings.Repeat("y", 300), ",,,"} {
		_, twin := logOf(t)
		want(t, "Reset", twin.Reset(records(g)...), api.OK)
		for _, s := range states() {
			if s.name == "torn" {
				continue // it has bytes that Bytes does not tell
			}
			d, l := s.make(t)
			others := max(d.Size("other"), 0)
			d.SetRoom(others + l.Bytes() + twin.Bytes() - 1)
			want(t, s.name+": Reset with one byte less", l.Reset(records(g)...), api.ErrDiskFull)
			wantGood(t, d, s.has...)
			d.SetRoom(others + l.Bytes() + twin.Bytes())
			want(t, s.name+": Reset with just the room", l.Reset(records(g)...), api.OK)
			wantGood(t, d, g)
			if l.Bytes() != twin.Bytes() {
				t.Errorf("Bytes: %d; the twin's %d", l.Bytes(), twin.Bytes())
			}
		}
	}
}

// P5.4: what a crash or a failure left of a Reset takes no room from an Append.
func TestRoomBehindAReset(t *testing.T) {
	_, twin := logOf(t, "a,b", "c", "x")
	for _, s := range states() {
		if !s.has.is(list{"a,b", "c"}) || s.name == "torn" {
			continue
		}
		d, l := s.make(t)
		d.SetRoom(max(d.Size("other"), 0) + twin.Bytes())
		want(t, s.name+": Append with just the room", l.Append("x"), api.OK)
		wantGood(t, d, "a,b", "c", "x")
	}
}

// P5.4: where a torn group stands in the way, there must be room for all of it anew.
func TestRoomBehindATornGroup(t *testing.T) {
	_, twin := logOf(t, "a,b", "c", "x")
	for _, s := range states() {
		if s.name != "torn" {
			continue
		}
		d, l := s.make(t)
		d.SetRoom(bytesOf(d) + twin.Bytes() - 1)
		want(t, "Append with one byte less", l.Append("x"), api.ErrDiskFull)
		wantGood(t, d, "a,b", "c")
		d.SetRoom(bytesOf(d) + twin.Bytes())
		want(t, "Append with just the room", l.Append("x"), api.OK)
		wantGood(t, d, "a,b", "c", "x")
		if n := bytesOf(d); n != twin.Bytes() {
			t.Errorf("there are %d bytes; want %d", n, twin.Bytes())
		}
	}
}

// P5.3, P5.4: a disk that is full ahead of the call.
func TestFullDisk(t *testing.T) {
	for _, s := range states() {
		for _, c := range calls() {
			d, l := s.make(t)
			for _, room := range []int{0, bytesOf(d) - 1, bytesOf(d)} {
				d.SetRoom(room)
				bytes := l.Bytes()
				for range 3 {
					want(t, s.name+": "+c.name+" on a full disk", c.do(l, strings.Repeat("x", 100)), api.ErrDiskFull)
					wantGood(t, d, s.has...)
				}
				if l.Bytes() != bytes {
					t.Errorf("%s: Bytes: %d; it was %d", s.name, l.Bytes(), bytes)
				}
			}
			d.SetRoom(100000)
			want(t, c.name, c.do(l, "x"), api.OK)
			wantGood(t, d, c.list(s.has, "x")...)
		}
	}
}

// P5.4: the log's files have between calls what Bytes tells, also behind failures that could be tidied up.
func TestNothingIsLeft(t *testing.T) {
	for _, c := range calls() {
		for at := range 4 {
			d, l := logOf(t, "a")
			d.FailAt(d.Ops() + at)
			c.do(l, "b")
			if n := bytesOf(d); n != l.Bytes() {
				t.Errorf("%s failing at %d: %d bytes in %q; Bytes: %d", c.name, at, n, d.Names(), l.Bytes())
			}
		}
	}
	d, l := logOf(t, "a")
	d = cutAt(t, d, 3, 1, 0, func() api.Errno { return l.Reset("b") })
	l = open(t, d, "l")
	want(t, "Append", l.Append("c"), api.OK)
	for _, x := range []*disk.Disk{d, d.Crash(0, 0)} {
		if n := bytesOf(x); n != l.Bytes() {
			t.Errorf("%d bytes in %q; Bytes: %d", n, x.Names(), l.Bytes())
		}
	}
}
