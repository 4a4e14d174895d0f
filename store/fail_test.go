package store_test

import (
	"testing"

	"tussock/api"
	"tussock/disk"
)

// P9.4: each operation of a call failing, one after the other: the store is as it was, for good, and goes on; or the call is done, for good.
func TestEachOperationFails(t *testing.T) {
	for _, s := range states() {
		for _, c := range calls() {
			ops := opsOf(t, s, c)
			for at := range ops + 2 {
				d, x := s.make(t)
				d.FailAt(d.Ops() + at)
				has := s.has
				switch e := c.do(x); {
				case e == api.OK:
					has = c.list(has)
				case e != api.ErrDiskIO || at >= ops:
					t.Errorf("%s: %s failing at %d: %d", s.name, c.name, at, e)
				}
				if at >= ops { // else the failure is still to come
					continue
				}
				wantTold(t, x, has)
				wantGood(t, d, has)
				for _, next := range []call{put("z"), keep("a x"), pack()} {
					y := now(d)
					want(t, "opened, "+next.name, next.do(open(t, y)), api.OK)
					wantList(t, y, next.list(has))
					wantList(t, y.Crash(0, 0), next.list(has))
				}
				want(t, s.name+": Put right behind it", x.Put(of("z")), api.OK)
				wantTold(t, x, has.plus("z"))
				wantGood(t, d, has.plus("z"))
				want(t, s.name+": the same again", c.do(x), api.OK)
				wantTold(t, x, c.list(has.plus("z")))
				wantGood(t, d, c.list(has.plus("z")))
			}
		}
	}
}

// P9.4: several operations failing: each set of eight that has the first one. The store goes on, whatever failed, and answers a failure only if there was one.
func TestSeveralOperationsFail(t *testing.T) {
	for _, s := range states()[:14] {
		for _, c := range []call{put("x yy"), keep("c x a"), pack()} {
			for set := 1; set < 1<<8; set += 2 {
				for _, from := range []int{0, 2, 4} {
					checkFailing(t, s, c, set<<from)
				}
			}
		}
	}
}

func checkFailing(t *testing.T, s state, c call, set int) {
	t.Helper()
	d, x := s.make(t)
	first := d.Ops()
	for i := range 14 {
		if set>>i&1 == 1 {
			d.FailAt(first + i)
		}
	}
	for range 10 {
		from := d.Ops()
		e := c.do(x)
		has := s.has
		if e == api.OK {
			has = c.list(has)
		} else if e != api.ErrDiskIO || set>>(from-first) == 0 {
			t.Errorf("%s: %s, failing set %b: %d", s.name, c.name, set, e)
		}
		wantList(t, d, has)
		wantList(t, d.Crash(0, 0), has)
		if e == api.OK {
			return
		}
	}
	t.Errorf("%s: %s, failing set %b, does not go on", s.name, c.name, set)
}

// P9.4: another's sync of the directory that fails undoes loose acts, wherever a call failed: what the store has hangs on none of them.
func TestOthersFailures(t *testing.T) {
	for _, s := range states() {
		for _, c := range calls() {
			for at := range opsOf(t, s, c) {
				d, x := s.make(t)
				has := s.has
				d.FailAt(d.Ops()+at, d.Ops()+at+1)
				if c.do(x) == api.OK {
					has = c.list(has)
				}
				clearFailures(t, d)
				d.FailAt(d.Ops())
				want(t, "SyncDir", d.SyncDir(), api.ErrDiskIO)
				wantTold(t, x, has)
				wantGood(t, d, has)
				want(t, "Put", x.Put(of("z")), api.OK)
				wantTold(t, x, has.plus("z"))
				wantGood(t, d, has.plus("z"))
			}
		}
	}
}

// clearFailures lets the failures come that are still to come, at reads of a file that nobody has.
func clearFailures(t testing.TB, d *disk.Disk) {
	t.Helper()
	for range 8 {
		_, e := d.Read("nobody's")
		want(t, "Read", e, api.ErrDiskNone)
	}
}

// P9.4: a failing sync of another one's finds nothing of a store's that it could undo.
func TestOthersFailuresBehindCalls(t *testing.T) {
	for _, s := range states() {
		for _, c := range []call{put("x yy"), keep("c x a"), keep("")} {
			d, x := s.make(t)
			want(t, c.name, c.do(x), api.OK)
			files := filesOf(d, "own")
			d.FailAt(d.Ops())
			want(t, "SyncDir", d.SyncDir(), api.ErrDiskIO)
			wantTold(t, x, c.list(s.has))
			wantGood(t, d, c.list(s.has))
			if got := filesOf(d, "own"); len(got) != len(files) {
				t.Errorf("%s: %s: the files %q; they were %q", s.name, c.name, got, files)
			}
		}
	}
}

// P9.4: with the power gone ahead of the call, or at one of its operations, the answer is ErrDiskOff, now and behind it.
func TestPowerGone(t *testing.T) {
	for _, s := range states() {
		for _, c := range calls() {
			for at := range opsOf(t, s, c) {
				d, x := s.make(t)
				d.CutAt(d.Ops() + at)
				want(t, s.name+": "+c.name, c.do(x), api.ErrDiskOff)
				for range 2 {
					for _, next := range []call{put("never"), keep("never"), pack()} {
						want(t, s.name+": "+next.name, next.do(x), api.ErrDiskOff)
					}
				}
				wantOneOf(t, d, []list{s.has, c.list(s.has)})
			}
		}
	}
}

// P9.4, P9.7: the power comes back without a crash: the store, opened again, has what the call under way was to do, or not, and goes on with that, also where the next call fails.
func TestPowerBack(t *testing.T) {
	for _, s := range states() {
		for _, c := range calls() {
			for at := range opsOf(t, s, c) {
				for fail := range 7 {
					checkPowerBack(t, s, c, at, fail)
				}
				checkTryAgain(t, s, c, at)
			}
		}
	}
}

func checkPowerBack(t *testing.T, s state, c call, at, fail int) {
	t.Helper()
	d, x := s.make(t)
	d.CutAt(d.Ops() + at)
	want(t, c.name, c.do(x), api.ErrDiskOff)
	d.CutAt(-1)
	either := []list{s.has, c.list(s.has)}
	has := wantOneOf(t, d, either)
	k := open(t, d)
	wantTold(t, k, has)
	d.FailAt(d.Ops() + fail)
	e := k.Put(of("z"))
	if e != api.OK { // what was loose, and never answered OK, may have gone with it
		want(t, "Put", e, api.ErrDiskIO)
		has = wantOneOf(t, d, either)
		e = k.Put(of("z"))
	}
	want(t, s.name+": Put", e, api.OK)
	clearFailures(t, d)
	wantTold(t, k, has.plus("z"))
	wantList(t, d, has.plus("z"))
	someCrashes(d, func(y *disk.Disk) { wantList(t, y, has.plus("z")) })
}

// checkTryAgain makes the call again that was cut off: when that is answered OK, it stands for good, whether there was something left to do or not.
func checkTryAgain(t *testing.T, s state, c call, at int) {
	t.Helper()
	d, x := s.make(t)
	d.CutAt(d.Ops() + at)
	want(t, c.name, c.do(x), api.ErrDiskOff)
	d.CutAt(-1)
	k := open(t, d)
	has := c.list(told(t, k))
	for range 2 {
		want(t, s.name+": "+c.name+" again", c.do(k), api.OK)
		wantTold(t, k, has)
		wantGood(t, d, has)
	}
}

// P9.4: a disk that is full: what is laid all the same took no more room than was left, else the store is as it was, and goes on.
func TestFullDisk(t *testing.T) {
	for _, s := range states() {
		for _, c := range calls() {
			d, x := s.make(t)
			has := s.has
			for _, room := range []int{0, bytesOf(d, "") - 1, bytesOf(d, "")} {
				d.SetRoom(room)
				for range 2 {
					if e := c.do(x); e == api.OK {
						has = c.list(has)
					} else {
						want(t, s.name+": "+c.name+" on a full disk", e, api.ErrDiskFull)
					}
					wantTold(t, x, has)
					wantGood(t, d, has)
				}
			}
			d.SetRoom(ample)
			want(t, c.name, c.do(x), api.OK)
			wantGood(t, d, c.list(has))
		}
	}
}
