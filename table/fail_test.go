package table_test

import (
	"strings"
	"testing"

	"tussock/api"
	"tussock/disk"
	"tussock/table"
)

// P13.4: each operation of a Commit failing, one after the other: the table is as it was, for good, and goes on.
func TestEachOperationFails(t *testing.T) {
	for _, s := range states() {
		for _, c := range calls() {
			last := opsOf(t, s, c) - 1
			for at := range last + 2 {
				d, x := s.make(t)
				d.FailAt(d.Ops() + at)
				e := c.do(x)
				now := s.has
				switch {
				case e == api.OK:
					now = c.list(now)
				case e != api.ErrDiskIO || at > last:
					t.Errorf("%s: %s failing at %d: %d", s.name, c.name, at, e)
				}
				wantTold(t, x, now)
				wantGood(t, d, now)
				for _, next := range calls() {
					checkNext(t, d, now, next)
				}
				if at <= last { // else the failure is still to come
					want(t, s.name+": a Commit right behind it", x.Commit(put("z", "z")), api.OK)
					wantTold(t, x, now.with(put("z", "z")))
					wantGood(t, d, now.with(put("z", "z")))
				}
			}
		}
	}
}

// checkNext makes a Commit on a table that is opened on a copy of a disk.
func checkNext(t testing.TB, d *disk.Disk, has list, next call) {
	t.Helper()
	d = now(d)
	x := open(t, d)
	want(t, "opened, "+next.name, next.do(x), api.OK)
	wantTold(t, x, next.list(has))
	wantList(t, d, next.list(has))
	wantList(t, d.Crash(0, 0), next.list(has))
}

// P13.4: several operations failing: each set of the first eight. The table goes on, whatever failed, and answers a failure only if there was one.
func TestSeveralOperationsFail(t *testing.T) {
	for _, s := range states() {
		for _, c := range []call{commit("a=2 -b x= x=3 -c c=9"), {"Commit of great puts", great()}} {
			for set := range 1 << 8 {
				checkFailing(t, s, c, set)
			}
		}
	}
}

func checkFailing(t *testing.T, s state, c call, set int) {
	t.Helper()
	d, x := s.make(t)
	first := d.Ops()
	for i := range 8 {
		if set>>i&1 == 1 {
			d.FailAt(first + i)
		}
	}
	has := s.has
	for try := range 10 {
		from := d.Ops() - first
		e := c.do(x)
		failed := set>>from&(1<<(d.Ops()-first-from)-1) != 0
		switch {
		case e == api.OK:
			has = c.list(has)
		case e != api.ErrDiskIO || !failed:
			t.Errorf("%s: %s, failing set %b, call %d: %d", s.name, c.name, set, try, e)
		}
		wantTold(t, x, has)
		wantList(t, d, has)
		wantList(t, d.Crash(0, 0), has)
		if d.Ops()-first > 8 {
			return
		}
	}
	t.Errorf("%s: %s, failing set %b, does not go on", s.name, c.name, set)
}

// P13.4: another's sync of the directory that fails undoes loose acts, wherever a Commit failed: what the table has hangs on none of them.
func TestOthersFailures(t *testing.T) {
	for _, s := range states() {
		for _, c := range calls() {
			for at := range opsOf(t, s, c) {
				d, x := s.make(t)
				has := s.has
				d.FailAt(d.Ops() + at)
				if c.do(x) == api.OK {
					has = c.list(has)
				}
				d.FailAt(d.Ops())
				want(t, "SyncDir", d.SyncDir(), api.ErrDiskIO)
				wantTold(t, x, has)
				wantGood(t, d, has)
				want(t, "Commit", x.Commit(put("y", "y")), api.OK)
				wantTold(t, x, has.with(put("y", "y")))
				wantGood(t, d, has.with(put("y", "y")))
			}
		}
	}
}

// P13.4: with the power gone ahead of the Commit, or at one of its operations, the answer is ErrDiskOff, now and behind it.
func TestPowerGone(t *testing.T) {
	for _, s := range states() {
		for _, c := range calls() {
			for at := range opsOf(t, s, c) {
				d, x := s.make(t)
				d.CutAt(d.Ops() + at)
				for _, next := range append([]call{c}, calls()...) {
					want(t, s.name+": "+next.name, next.do(x), api.ErrDiskOff)
				}
				wantNoTable(t, "with the power gone", d, api.ErrDiskOff)
			}
		}
	}
}

// P13.4, P13.7: the power comes back without a crash: the table, opened again, has what was under way, or not; and what it is told to have then stays told, and is there for good behind the next Commit, whichever operations fail till then, its own or another's.
func TestPowerBack(t *testing.T) {
	for _, s := range states() {
		for _, c := range calls() {
			for at := range opsOf(t, s, c) {
				for fail := range 6 {
					checkPowerBack(t, s, c, at, fail, false)
					checkPowerBack(t, s, c, at, fail, true)
				}
			}
		}
	}
}

func checkPowerBack(t *testing.T, s state, c call, at, fail int, other bool) {
	t.Helper()
	d, x := s.make(t)
	d.CutAt(d.Ops() + at)
	want(t, c.name, c.do(x), api.ErrDiskOff)
	d.CutAt(-1)
	either := []list{s.has, c.list(s.has)}
	has := wantOneOf(t, d, either)
	x = open(t, d)
	wantTold(t, x, has)
	if other {
		d.FailAt(d.Ops())
		want(t, "another's SyncDir", d.SyncDir(), api.ErrDiskIO)
		wantOneOf(t, d, either) // what was loose, and never answered OK, may have gone with it
	}
	y := put("y", "y")
	d.FailAt(d.Ops() + fail)
	e := x.Commit(y)
	if e != api.OK {
		want(t, "Commit", e, api.ErrDiskIO)
		wantTold(t, x, has)
		wantOneOf(t, d, either)
		e = x.Commit(y)
	}
	want(t, s.name+": Commit", e, api.OK)
	wantTold(t, x, has.with(y))
	wantGood(t, d, has.with(y))
}

// P13.4: a disk that has room for so many bytes more, from none on: the Commit is done, or the table is as it was, for good; and it goes on when there is room.
func TestEachRoom(t *testing.T) {
	for _, s := range states() {
		for _, c := range calls() {
			step := 1
			if strings.Contains(c.name, "great") {
				step = 7
			}
			for more := 0; more < 300; more += step {
				if !checkRoom(t, s, c, more) {
					break // it is done: more room does no harm
				}
			}
		}
	}
}

// checkRoom tells whether the Commit failed.
func checkRoom(t *testing.T, s state, c call, more int) bool {
	t.Helper()
	d, x := s.make(t)
	d.SetRoom(bytesOf(d) + more)
	e := c.do(x)
	if e == api.OK {
		wantTold(t, x, c.list(s.has))
		wantGood(t, d, c.list(s.has))
		return false
	}
	want(t, s.name+": "+c.name+" on a full disk", e, api.ErrDiskFull)
	wantTold(t, x, s.has)
	wantGood(t, d, s.has)
	want(t, s.name+": "+c.name+" on a full disk again", c.do(x), api.ErrDiskFull)
	wantTold(t, x, s.has)
	wantList(t, d, s.has)
	d.SetRoom(ample)
	want(t, s.name+": "+c.name, c.do(x), api.OK)
	wantTold(t, x, c.list(s.has))
	wantGood(t, d, c.list(s.has))
	return true
}

// P13.4: a disk without room, or with no more than the table's own file has; what a crash left beside that is in nobody's way.
func TestNoRoom(t *testing.T) {
	for _, s := range states() {
		for _, c := range calls() {
			d, x := s.make(t)
			for _, room := range []int{0, d.Size("t") / 2, d.Size("t")} {
				d.SetRoom(room)
				want(t, s.name+": "+c.name, c.do(x), api.ErrDiskFull)
				wantTold(t, x, s.has)
				wantGood(t, d, s.has)
			}
		}
	}
	x := open(t, &disk.Disk{})
	want(t, "a disk of no making", x.Commit(put("a", "")), api.ErrDiskFull)
	wantTold(t, x, nil)
}

// P13.4: the disk's errors are answered only if the disk answered them in this call: where the room is there and nothing fails, a Commit is done. There is room enough, if what is there now and all pairs that there are then, as laid, have room beside each other.
func TestRoomEnough(t *testing.T) {
	for _, s := range states() {
		for _, c := range calls() {
			d, x := s.make(t)
			d.SetRoom(bytesOf(d) + 20000 + 4*c.list(s.has).weight())
			want(t, s.name+": "+c.name, c.do(x), api.OK)
		}
	}
	d, x := tableOf(t)
	want(t, "Commit", x.Commit(heavy(1048576)...), api.OK)
	for range 5 {
		d.SetRoom(bytesOf(d) + 20000 + 4*1048576)
		want(t, "Commit", x.Commit(heavy(1048576)...), api.OK)
	}
}

// P13.4: failures of a long row of Commits, one operation after the other: none is lost, none is done that failed.
func TestFailuresInARow(t *testing.T) {
	for every := 2; every < 12; every++ {
		d, x := tableOf(t)
		for op := 0; op < 3000; op += every {
			d.FailAt(op)
		}
		var now list
		for i := range 300 {
			p := []api.Put{put(string(rune('a'+i%7)), strings.Repeat("v", i*i%1500)), gone(string(rune('a' + i*i%7)))}
			switch e := x.Commit(p...); e {
			case api.OK:
				now = now.with(p...)
			case api.ErrDiskIO:
			default:
				t.Fatalf("Commit %d: %d", i, e)
			}
			if i%20 == 0 {
				wantTold(t, x, now)
				wantList(t, d, now)
				wantList(t, d.Crash(0, 0), now)
			}
		}
	}
}

// P13.4: Open failing leaves all as it is, and goes on.
func TestOpenFails(t *testing.T) {
	for _, s := range states() {
		d, _ := s.make(t)
		if d.Size("t") < 0 {
			continue
		}
		before := snapshot(d)
		d.FailAt(d.Ops(), d.Ops()+1)
		wantNoTable(t, s.name, d, api.ErrDiskIO)
		wantNoTable(t, s.name, d, api.ErrDiskIO)
		if snapshot(d) != before {
			t.Errorf("%s: Open changed the disk", s.name)
		}
		var x *table.Table
		d, x = reopened(t, d)
		want(t, "Commit", x.Commit(put("z", "")), api.OK)
		wantGood(t, d, s.has.with(put("z", "")))
	}
}
