package wal_test

import (
	"testing"

	"tussock/api"
	"tussock/disk"
	"tussock/wal"
)

// turnEach turns each byte of each of the log's files by each number, on copies, and holds what Open answers against what it answered ahead of it.
func turnEach(t *testing.T, d *disk.Disk, numbers int) {
	t.Helper()
	before := read(t, d, "l")
	for _, name := range filesOf(d, "l") {
		for at := range d.Size(name) {
			for by := range numbers {
				x := now(d)
				want(t, "Turn", x.Turn(name, at, byte(by*37)), api.OK)
				l, groups, e := wal.Open(x, "l")
				switch {
				case e == api.OK && by == 0, e == api.OK && told(groups).is(before):
					if !told(groups).is(before) || l == nil {
						t.Fatalf("turned by 0: %q; want %q", groups, before)
					}
				case e != api.ErrWalCorrupt || l != nil || groups != nil:
					t.Fatalf("%s, byte %d of %d turned: %v, %q, %d; it was %q", name, at, d.Size(name), l, groups, e, before)
				}
			}
		}
	}
}

// P5.5: each byte of each file turned, in each state; by each number, as 37 times it goes through all of them.
func TestTurn(t *testing.T) {
	for _, s := range states() {
		d, _ := s.make(t)
		turnEach(t, d, 256)
	}
	d, l := logOf(t, "", "", ",", "a,bb,ccc,dddd", "")
	turnEach(t, d, 256)
	want(t, "Reset", l.Reset(), api.OK)
	turnEach(t, d, 256)
}

// P5.5: of a group that is there every byte counts: turned, Open can't answer the same.
func TestTurnIsTold(t *testing.T) {
	d, l := logOf(t, "a,b", "", "c")
	for at := range l.Bytes() {
		x := now(d)
		want(t, "Turn", x.Turn("l", at, 1), api.OK)
		if l, groups, e := wal.Open(x, "l"); l != nil || groups != nil || e != api.ErrWalCorrupt {
			t.Errorf("byte %d turned: %v, %q, %d", at, l, groups, e)
		}
		want(t, "Turn back", x.Turn("l", at, 1), api.OK)
		wantList(t, x, "a,b", "", "c")
	}
}

// P5.5: bytes that are loose, turned with the power gone, and behind a crash of any kind.
func TestTurnLoose(t *testing.T) {
	for _, s := range states() {
		if s.name == "torn" {
			continue
		}
		for _, c := range calls() {
			last := lastOp(t, s.make, c, "x,yy")
			for at := range last + 1 {
				d, l := s.make(t)
				d.CutAt(d.Ops() + at)
				want(t, c.name, c.do(l, "x", "yy"), api.ErrDiskOff)
				turnEach(t, d, 4)
				turnAndCrash(t, d)
				eachCrash(d, func(x *disk.Disk) { turnEach(t, x, 3) })
			}
		}
	}
}

// turnAndCrash turns a byte while it is loose, and lets the disk crash then.
func turnAndCrash(t *testing.T, d *disk.Disk) {
	t.Helper()
	for _, name := range filesOf(d, "l") {
		for at := range d.Size(name) {
			for keep := range d.Loose() + 1 {
				for _, torn := range []int{0, 3, 10, 15, 20} {
					before := read(t, d.Crash(keep, torn), "l")
					want(t, "Turn", d.Turn(name, at, 0x81), api.OK)
					_, groups, e := wal.Open(d.Crash(keep, torn), "l")
					want(t, "Turn back", d.Turn(name, at, 0x81), api.OK)
					if e != api.ErrWalCorrupt && (e != api.OK || !told(groups).is(before)) {
						t.Fatalf("%s, byte %d turned, then crashed: %q, %d; it was %q", name, at, groups, e, before)
					}
				}
			}
		}
	}
}

// P5.2, P5.5: a byte that is turned under a log that is in use hinders neither Append nor Reset; Open tells it, as long as it is there.
func TestTurnUnderALog(t *testing.T) {
	for _, s := range states() {
		d, _ := s.make(t)
		for at := range max(d.Size("l"), 0) {
			d, l := s.make(t)
			want(t, "Turn", d.Turn("l", at, 0x10), api.OK)
			want(t, "Append", l.Append("x"), api.OK)
			_, groups, e := wal.Open(now(d), "l")
			if e != api.ErrWalCorrupt && (e != api.OK || !told(groups).is(s.has.plus("x"))) {
				t.Errorf("%s, byte %d turned: %q, %d", s.name, at, groups, e)
			}
			want(t, "Reset", l.Reset("y"), api.OK)
			wantGood(t, d, "y")
		}
	}
}
