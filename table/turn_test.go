package table_test

import (
	"strings"
	"testing"

	"tussock/api"
	"tussock/disk"
	"tussock/table"
)

// turnEach turns each byte of each of the table's files by some numbers, one at a time, and asks for the same pairs, or ErrTableCorrupt. It tells how many were answered by the pairs.
func turnEach(t testing.TB, d *disk.Disk, numbers int, has list) int {
	t.Helper()
	same := 0
	x := now(d)
	for _, name := range filesOf(x, "t") {
		for at := range x.Size(name) {
			for i := range numbers {
				by := byte(1 + i*37) // of 256 numbers each once
				if by == 0 {
					continue
				}
				want(t, "Turn", x.Turn(name, at, by), api.OK)
				switch y, e := table.Open(x, "t"); {
				case e == api.OK && y != nil:
					wantTold(t, y, has)
					same++
				case e != api.ErrTableCorrupt || y != nil:
					t.Fatalf("%s, byte %d turned by %d: %v, %d", name, at, by, y, e)
				}
				want(t, "Turn back", x.Turn(name, at, by), api.OK)
			}
		}
	}
	wantList(t, x, has)
	return same
}

// P13.6: each byte of each file turned, in each state; in some by each number.
func TestTurn(t *testing.T) {
	for i, s := range states() {
		numbers := 3
		if i < 5 {
			numbers = 256
		}
		d, _ := s.make(t)
		if d.Size("t~anew") > 1000 {
			numbers = 1
		}
		turnEach(t, d, numbers, s.has)
	}
}

// P13.6: of a file that is all the table has no byte is turned unseen, even if the same pairs came of it.
func TestTurnIsTold(t *testing.T) {
	for _, commits := range [][]string{{"a=1"}, {"a=1 b=2", "c=3"}, {"a=1 a=1"}, {"key=val", "-key"}, {"a=1", "a=1", "a=1"}} {
		d, x := tableOf(t, commits...)
		if n := turnEach(t, d, 256, told(t, x)); n != 0 {
			t.Errorf("%q: %d turns are not seen", commits, n)
		}
	}
}

// P13.6: of a great table, some bytes.
func TestTurnGreat(t *testing.T) {
	d, x := tableOf(t)
	want(t, "Commit", x.Commit(heavy(100000)...), api.OK)
	want(t, "Commit", x.Commit(put("a", strings.Repeat("v", 4096)), gone("h100003")), api.OK)
	now := told(t, x)
	for at := 0; at < d.Size("t"); at += 97 {
		want(t, "Turn", d.Turn("t", at, 1<<(at%8)), api.OK)
		if y, e := table.Open(d, "t"); e == api.OK {
			wantTold(t, y, now)
		} else if e != api.ErrTableCorrupt {
			t.Errorf("byte %d turned: %d", at, e)
		}
		want(t, "Turn back", d.Turn("t", at, 1<<(at%8)), api.OK)
	}
}

// P13.6: bytes turned in what crashes of any kind left.
func TestTurnBehindCrashes(t *testing.T) {
	for _, s := range states()[:5] {
		for _, c := range calls()[:3] {
			for at := range opsOf(t, s, c) {
				d, x := s.make(t)
				d.CutAt(d.Ops() + at)
				want(t, c.name, c.do(x), api.ErrDiskOff)
				someCrashes(d, func(y *disk.Disk) {
					turnEach(t, y, 2, wantOneOf(t, y, []list{s.has, c.list(s.has)}))
				})
			}
		}
	}
}

// R1: bytes turned under a table that is in use: it says what it has, and no call panics; what lies there then is a table's, or none's.
func TestTurnUnderATable(t *testing.T) {
	for _, s := range states()[:7] {
		d, _ := s.make(t)
		for at := range max(d.Size("t"), 0) {
			for _, c := range calls()[:3] {
				d, x := s.make(t)
				want(t, "Turn", d.Turn("t", at, 0x81), api.OK)
				wantTold(t, x, s.has)
				has := s.has
				if c.do(x) == api.OK {
					has = c.list(has)
				}
				wantTold(t, x, has)
				if y, e := table.Open(d, "t"); e == api.OK {
					wantTold(t, y, has)
				} else if e != api.ErrTableCorrupt {
					t.Errorf("Open: %d", e)
				}
			}
		}
	}
}
