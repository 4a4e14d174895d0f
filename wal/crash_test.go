package wal_test

import (
	"testing"

	"tussock/api"
	"tussock/disk"
)

// P5.6: the power gone at each operation of a call, in each state, and each crash: the log has what it had, or that and the group, and goes on, for good.
func TestEachOperationCut(t *testing.T) {
	for _, s := range states() {
		for _, c := range calls() {
			last := lastOp(t, s.make, c, "x,yy")
			either := []list{s.has, c.list(s.has, "x,yy")}
			for at := range last + 1 {
				d, l := s.make(t)
				d.CutAt(d.Ops() + at)
				want(t, c.name, c.do(l, "x", "yy"), api.ErrDiskOff)
				eachCrash(d, func(x *disk.Disk) {
					has := wantOneOf(t, x, either)
					for _, next := range calls() {
						y := x.Crash(0, 0)
						want(t, next.name, next.do(open(t, y, "l"), "z"), api.OK)
						wantGood(t, y, next.list(has, "z")...)
					}
				})
			}
		}
	}
}

// P5.6: a call that was answered OK stands behind each crash; at its last operation all was done, so that a crash which keeps all has the group.
func TestCutAtTheLastOperation(t *testing.T) {
	for _, s := range states() {
		for _, c := range calls() {
			last := lastOp(t, s.make, c, "x")
			d, l := s.make(t)
			d.CutAt(d.Ops() + last)
			want(t, c.name, c.do(l, "x"), api.ErrDiskOff)
			wantList(t, now(d), c.list(s.has, "x")...)
			d, l = s.make(t)
			d.CutAt(d.Ops() + last + 1)
			want(t, c.name, c.do(l, "x"), api.OK)
			wantGood(t, d, c.list(s.has, "x")...)
		}
	}
}

// P5.6: crashes of what a crash left, with the log opened and used between them.
func TestCrashesOfCrashes(t *testing.T) {
	depth := 3
	if testing.Short() {
		depth = 2
	}
	d, _ := logOf(t, "a")
	crashAgain(t, d.Crash(0, 0), list{"a"}, depth)
	crashAgain(t, newDisk(t, 100000), nil, depth)
}

// crashAgain cuts each call at each operation, and goes on with what some crashes leave.
func crashAgain(t *testing.T, d *disk.Disk, has list, depth int) {
	wantOneOf(t, d, []list{has})
	if depth == 0 {
		return
	}
	for _, c := range calls() {
		for at := range 8 {
			x := d.Crash(0, 0)
			l := open(t, x, "l")
			want(t, "Append", l.Append("s"), api.OK)
			x.CutAt(x.Ops() + at)
			e := c.do(l, "x")
			before := has.plus("s")
			either := []list{before, c.list(before, "x")}
			if e == api.OK {
				either = either[1:]
			}
			for keep := range x.Loose() + 1 {
				for _, torn := range []int{0, 5, 15} {
					y := x.Crash(keep, torn)
					crashAgain(t, y, wantOneOf(t, y, either), depth-1)
				}
			}
			if e == api.OK {
				break
			}
		}
	}
}

// P5.6: many groups in one file, the last one torn at each of its bytes, again and again.
func TestTornAgainAndAgain(t *testing.T) {
	d, l := logOf(t, "a", "b,c")
	has := list{"a", "b,c"}
	for torn := range 60 {
		d.CutAt(d.Ops() + 1) // behind an Append that was OK it is the Sync
		want(t, "Append", l.Append("torn", "away,", "for", "ever"), api.ErrDiskOff)
		d = d.Crash(0, torn)
		l = open(t, d, "l")
		if torn < 35 {
			wantList(t, d, has...)
		} else {
			has = wantOneOf(t, d, []list{has, has.plus("torn,away,,for,ever")})
		}
		want(t, "Append", l.Append("x"), api.OK)
		has = has.plus("x")
		wantGood(t, d, has...)
	}
}
