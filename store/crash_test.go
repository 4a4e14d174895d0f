package store_test

import (
	"testing"

	"tussock/api"
	"tussock/disk"
)

// P9.7: the power gone at each operation of a call, in each state, and each crash: the store has what it had, or what the call was to do, and goes on, for good.
func TestEachOperationCut(t *testing.T) {
	for _, s := range states() {
		for _, c := range calls() {
			either := []list{s.has, c.list(s.has)}
			for at := range opsOf(t, s, c) {
				d, x := s.make(t)
				d.CutAt(d.Ops() + at)
				want(t, c.name, c.do(x), api.ErrDiskOff)
				eachCrash(d, func(y *disk.Disk) { wantOneOf(t, y, either) })
				someCrashes(d, func(y *disk.Disk) {
					has := wantOneOf(t, y, either)
					for _, next := range calls() {
						z := y.Crash(0, 0)
						k := open(t, z)
						want(t, next.name, next.do(k), api.OK)
						wantTold(t, k, next.list(has))
						wantGood(t, z, next.list(has))
					}
				})
			}
		}
	}
}

// P9.7: a call that was answered OK stands behind each crash; at its last operation all was done that is to be seen, so that a crash which keeps all acts has it.
func TestCutAtTheLastOperation(t *testing.T) {
	for _, s := range states() {
		for _, c := range calls() {
			ops := opsOf(t, s, c)
			d, x := s.make(t)
			d.CutAt(d.Ops() + ops)
			want(t, c.name, c.do(x), api.OK)
			wantGood(t, d, c.list(s.has))
			if ops == 0 {
				continue
			}
			d, x = s.make(t)
			d.CutAt(d.Ops() + ops - 1)
			want(t, c.name, c.do(x), api.ErrDiskOff)
			wantList(t, now(d), c.list(s.has))
		}
	}
}

// P9.7: crashes of what a crash left, with the store opened and used between them.
func TestCrashesOfCrashes(t *testing.T) {
	depth := 3
	if testing.Short() {
		depth = 2
	}
	d, _ := storeOf(t, "a b", "c")
	crashAgain(t, d.Crash(0, 0), words("a b c"), depth)
	crashAgain(t, newDisk(t, ample), nil, depth)
}

// crashAgain cuts calls at each operation, and goes on with what some crashes leave.
func crashAgain(t *testing.T, d *disk.Disk, has list, depth int) {
	wantOneOf(t, d, []list{has})
	if depth == 0 {
		return
	}
	word := string(rune('m' + depth))
	for _, c := range []call{put(word), keep("a " + word), pack()} {
		for at := 0; ; at++ {
			x := d.Crash(0, 0)
			s := open(t, x)
			x.CutAt(x.Ops() + at)
			e := c.do(s)
			either := []list{has, c.list(has)}
			if e == api.OK {
				either = either[1:]
			}
			for acts := range x.Loose() + 1 {
				y := x.Crash(acts, 10*depth)
				crashAgain(t, y, wantOneOf(t, y, either), depth-1)
			}
			if e == api.OK {
				break
			}
		}
	}
}

// P9.7: the power gone while a store is opened, at each read: what is there stays.
func TestCutWhileOpened(t *testing.T) {
	for _, s := range states() {
		d, _ := s.make(t)
		d = d.Crash(0, 0)
		open(t, d)
		for at := range d.Ops() {
			x := d.Crash(0, 0)
			x.CutAt(at)
			wantNoOpen(t, x, api.ErrDiskOff)
			wantGood(t, x, s.has)
		}
	}
}

// P9.7: a crash behind each call of a long row, with nothing that is loose staying.
func TestCrashBehindEachCall(t *testing.T) {
	d := newDisk(t, ample)
	var has list
	for i := range 60 {
		s := open(t, d)
		all := calls()
		c := all[(i*i+i)%len(all)]
		want(t, c.name, c.do(s), api.OK)
		has = c.list(has)
		wantTold(t, s, has)
		d = d.Crash(0, 0)
		wantList(t, d, has)
	}
}
