package wal_test

import (
	"testing"

	"tussock/api"
	"tussock/disk"
)

// P5.3: each operation of a call failing, one after the other: the log is as it was, for good, and goes on.
func TestEachOperationFails(t *testing.T) {
	for _, s := range states() {
		for _, c := range calls() {
			last := lastOp(t, s.make, c, "x,y")
			for at := range last + 3 {
				d, l := s.make(t)
				bytes := l.Bytes()
				d.FailAt(d.Ops() + at)
				e := c.do(l, "x", "y")
				has := s.has
				switch {
				case e == api.OK:
					has = c.list(has, "x,y")
				case e != api.ErrDiskIO || at > last:
					t.Errorf("%s: %s failing at %d: %d", s.name, c.name, at, e)
				case l.Bytes() != bytes:
					t.Errorf("%s: Bytes: %d; it was %d", s.name, l.Bytes(), bytes)
				}
				wantGood(t, d, has...)
				for _, next := range calls() {
					x := now(d)
					k := open(t, x, "l")
					want(t, "opened, "+next.name, next.do(k, "z"), api.OK)
					wantGood(t, x, next.list(has, "z")...)
				}
				if at <= last { // else the failure is still to come
					want(t, s.name+": Append right behind it", l.Append("z"), api.OK)
					wantGood(t, d, has.plus("z")...)
				}
			}
		}
	}
}

// P5.3: several operations failing: each set of the first eight. The log goes on, whatever failed, and answers a failure only if there was one.
func TestSeveralOperationsFail(t *testing.T) {
	for _, s := range states() {
		if s.name == "torn" && testing.Short() {
			continue
		}
		for _, c := range calls() {
			for set := range 1 << 8 {
				checkFailing(t, s, c, set)
			}
		}
	}
}

func checkFailing(t *testing.T, s state, c call, set int) {
	t.Helper()
	d, l := s.make(t)
	first := d.Ops()
	for i := range 8 {
		if set>>i&1 == 1 {
			d.FailAt(first + i)
		}
	}
	has := s.has
	for try := range 10 {
		from := d.Ops()
		e := c.do(l, "x")
		failed := set>>(from-first) != 0
		switch {
		case e == api.OK:
			has = c.list(has, "x")
		case e != api.ErrDiskIO || !failed:
			t.Errorf("%s: %s, failing set %b, call %d: %d", s.name, c.name, set, try, e)
		}
		wantList(t, d, has...)
		wantList(t, d.Crash(0, 0), has...)
		if d.Ops()-first > 8 {
			return
		}
	}
	t.Errorf("%s: %s, failing set %b, does not go on", s.name, c.name, set)
}

// P5.3: another's sync of the directory that fails undoes loose acts, wherever a call failed: what the log has hangs on none of them.
func TestOthersFailures(t *testing.T) {
	for _, s := range states() {
		for _, c := range calls() {
			last := lastOp(t, s.make, c, "x")
			for at := range last + 1 {
				d, l := s.make(t)
				has := s.has
				d.FailAt(d.Ops() + at)
				if c.do(l, "x") == api.OK {
					has = c.list(has, "x")
				}
				d.FailAt(d.Ops())
				want(t, "SyncDir", d.SyncDir(), api.ErrDiskIO)
				wantGood(t, d, has...)
				want(t, "Append", l.Append("y"), api.OK)
				wantGood(t, d, has.plus("y")...)
			}
		}
	}
}

// P5.3: with the power gone ahead of the call, or at one of its operations, the answer is ErrDiskOff, now and behind it.
func TestPowerGone(t *testing.T) {
	for _, s := range states() {
		for _, c := range calls() {
			last := lastOp(t, s.make, c, "x")
			for at := range last + 1 {
				d, l := s.make(t)
				d.CutAt(d.Ops() + at)
				for range 3 {
					for _, next := range append([]call{c}, calls()...) {
						want(t, s.name+": "+next.name, next.do(l, "x"), api.ErrDiskOff)
					}
				}
			}
		}
	}
}

// P5.3, P5.6: the power comes back without a crash: the log, opened again, has the group that was under way, or not, and goes on with that.
func TestPowerBack(t *testing.T) {
	for _, s := range states() {
		for _, c := range calls() {
			last := lastOp(t, s.make, c, "x")
			for at := range last + 1 {
				for fail := range 6 {
					checkPowerBack(t, s, c, at, fail)
				}
			}
		}
	}
}

func checkPowerBack(t *testing.T, s state, c call, at, fail int) {
	t.Helper()
	d, l := s.make(t)
	d.CutAt(d.Ops() + at)
	want(t, c.name, c.do(l, "x"), api.ErrDiskOff)
	d.CutAt(-1)
	either := []list{s.has, c.list(s.has, "x")}
	has := wantOneOf(t, d, either)
	k := open(t, d, "l")
	d.FailAt(d.Ops() + fail)
	e := k.Append("y")
	if e != api.OK { // what was loose, and never answered OK, may have gone with it
		want(t, "Append", e, api.ErrDiskIO)
		has = wantOneOf(t, d, either)
		e = k.Append("y")
	}
	want(t, s.name+": Append", e, api.OK)
	wantGood(t, d, has.plus("y")...)
	if n := open(t, now(d), "l").Bytes(); n != k.Bytes() {
		t.Errorf("%s: Bytes: %d; opened anew %d", s.name, k.Bytes(), n)
	}
}

func wantOneOf(t testing.TB, d *disk.Disk, either []list) list {
	t.Helper()
	got := read(t, d, "l")
	for _, x := range either {
		if got.is(x) {
			return x
		}
	}
	t.Fatalf("has %q; want one of %q", got, either)
	return nil
}
