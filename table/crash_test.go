package table_test

import (
	"strings"
	"testing"

	"tussock/api"
	"tussock/disk"
)

// P13.7: the power gone at each operation of a Commit, in each state, and each crash: the table has what it had, or what it was to have, wholly, and goes on, for good.
func TestEachOperationCut(t *testing.T) {
	for _, s := range states() {
		for _, c := range calls() {
			either := []list{s.has, c.list(s.has)}
			for at := range opsOf(t, s, c) {
				d, x := s.make(t)
				d.CutAt(d.Ops() + at)
				want(t, c.name, c.do(x), api.ErrDiskOff)
				eachCrash(d, func(y *disk.Disk) {
					has := wantOneOf(t, y, either)
					checkNext(t, y, has, commit("z=z -a"))
					checkNext(t, y, has, call{"great", great()})
				})
			}
		}
	}
}

// P13.7: a Commit that was answered OK stands behind each crash; at its last operation all was done, so that a crash which keeps all has it.
func TestCutAtTheLastOperation(t *testing.T) {
	for _, s := range states() {
		for _, c := range calls() {
			ops := opsOf(t, s, c)
			d, x := s.make(t)
			d.CutAt(d.Ops() + ops - 1)
			want(t, c.name, c.do(x), api.ErrDiskOff)
			wantList(t, now(d), c.list(s.has))
			d, x = s.make(t)
			d.CutAt(d.Ops() + ops)
			want(t, c.name, c.do(x), api.OK)
			wantGood(t, d, c.list(s.has))
		}
	}
}

// P13.7: the power gone at the Open, and a crash: all is as it was.
func TestOpenCut(t *testing.T) {
	for _, s := range states() {
		d, _ := s.make(t)
		d.CutAt(d.Ops())
		wantNoTable(t, s.name, d, api.ErrDiskOff)
		eachCrash(d, func(y *disk.Disk) {
			wantList(t, y, s.has)
			checkNext(t, y, s.has, commit("z=z"))
		})
	}
}

// P13.7: crashes of what a crash left, with the table opened and used between them.
func TestCrashesOfCrashes(t *testing.T) {
	d, _ := tableOf(t, "a=1 b=2", "c=3")
	seen := map[string]int{}
	crashAgain(t, d.Crash(0, 0), has("a=1 b=2 c=3"), 4, seen)
	crashAgain(t, newDisk(t, ample), nil, 4, seen)
}

// crashAgain cuts Commits at each operation, behind the Open and behind another Commit, and goes on with what some crashes leave, unless a disk with just that was seen.
func crashAgain(t *testing.T, d *disk.Disk, before list, depth int, seen map[string]int) {
	wantList(t, d, before)
	if what := snapshot(d); depth <= seen[what] {
		return
	} else {
		seen[what] = depth
	}
	depth--
	for _, c := range []call{commit("-a x=1 b=3"), {"great", great()}} {
		for _, first := range []bool{true, false} {
			for at, e := 0, api.ErrDiskOff; e != api.OK; at++ {
				y := d.Crash(0, 0)
				x := open(t, y)
				has := before
				if !first {
					want(t, "Commit", x.Commit(put("s", strings.Repeat("s", depth))), api.OK)
					has = has.with(put("s", strings.Repeat("s", depth)))
				}
				y.CutAt(y.Ops() + at)
				e = c.do(x)
				either := []list{has, c.list(has)}
				if e == api.OK {
					either = either[1:]
				}
				someCrashes(y, func(z *disk.Disk) { crashAgain(t, z, wantOneOf(t, z, either), depth, seen) })
			}
		}
	}
}

// P13.7: the last Commit torn at each of its bytes, again and again.
func TestTornAgainAndAgain(t *testing.T) {
	d, x := tableOf(t, "a=1", "b=2")
	now := has("a=1 b=2")
	torn := commit("torn=away,for,ever -a a=2 -b")
	for n := range 80 {
		want(t, "Commit", x.Commit(put("a", "1"), put("b", "2")), api.OK)
		now = now.with(put("a", "1"), put("b", "2"))
		d.CutAt(d.Ops() + 1) // behind an Append that was OK it is the Sync
		want(t, "Commit", torn.do(x), api.ErrDiskOff)
		d = d.Crash(0, n)
		now = wantOneOf(t, d, []list{now, torn.list(now)})
		x = open(t, d)
		want(t, "Commit", x.Commit(put("x", strings.Repeat("x", n))), api.OK)
		now = now.with(put("x", strings.Repeat("x", n)))
		wantGood(t, d, now)
	}
}

// P13.7: tables as great as they may be: cut at each operation, some of the bytes torn off.
func TestGreatCrashes(t *testing.T) {
	all, half := heavy(1048576), heavy(1048576)
	for i := range half {
		if i%2 == 0 {
			half[i] = gone(half[i].Key)
		} else {
			half[i].Val = strings.ToUpper(half[i].Val)
		}
	}
	for _, c := range []call{{"all", all}, {"half", half}, {"all gone", goneOf(all)}, commit("-h100001")} {
		for _, ahead := range [][]api.Put{nil, all} {
			for at, e := 0, api.ErrDiskOff; e != api.OK; at++ {
				d, x := tableOf(t)
				want(t, "Commit", x.Commit(ahead...), api.OK)
				before := list(nil).with(ahead...)
				either := []list{before, c.list(before)}
				d.CutAt(d.Ops() + at)
				e = c.do(x)
				if e == api.OK {
					either = either[1:]
				}
				someCrashes(d, func(y *disk.Disk) {
					has := wantOneOf(t, y, either)
					checkNext(t, y, has, commit("-h100000 -h100002 z=z"))
				})
			}
		}
	}
}

// goneOf are puts that take the pairs of puts away.
func goneOf(puts []api.Put) []api.Put {
	var out []api.Put
	for _, p := range puts {
		out = append(out, gone(p.Key))
	}
	return out
}

// P13.7: how puts are put into Commits makes no difference.
func TestPartsOfPuts(t *testing.T) {
	all := puts("a=1 b=2 -a c=3 c=4 a=5 -none d= -b b=6 ab=7 -c e=8 e=9 -e abc=1 -ab f=2")
	whole := list(nil).with(all...)
	for set := range 1 << (len(all) - 1) {
		if set%37 != 0 && set%1001 != 0 { // some thousands of them
			continue
		}
		d, x := tableOf(t)
		from := 0
		for i := range all {
			if i == len(all)-1 || set>>i&1 == 1 {
				want(t, "Commit", x.Commit(all[from:i+1]...), api.OK)
				from = i + 1
			}
		}
		wantTold(t, x, whole)
		wantTold(t, open(t, d.Crash(0, 0)), whole)
	}
}

// P13.7: with an Open, or a crash, between any two Commits there is no difference either.
func TestOpensBetween(t *testing.T) {
	words := strings.Fields("a=1 b=2 -a c=3 c=4 a=5 -none d= -b b=6")
	whole := has(strings.Join(words, " "))
	for set := range 1 << len(words) {
		d, x := tableOf(t)
		for i, w := range words {
			want(t, "Commit", x.Commit(puts(w)...), api.OK)
			if set>>i&1 == 1 {
				if i%2 == 0 {
					d = d.Crash(0, 0)
				}
				x = open(t, d)
			}
		}
		wantTold(t, x, whole)
		wantTold(t, open(t, d.Crash(0, 0)), whole)
	}
}

// P13.7: two tables, and logs, on one disk: crashes of one's Commits leave the others as they are.
func TestCrashesBesideOthers(t *testing.T) {
	for _, c := range calls() {
		for at, e := 0, api.ErrDiskOff; e != api.OK; at++ {
			d := newDisk(t, ample)
			x, y := open(t, d), openName(t, d, "t2")
			want(t, "Commit", x.Commit(puts("a=1 b=2")...), api.OK)
			want(t, "Commit", y.Commit(puts("a=other")...), api.OK)
			d.CutAt(d.Ops() + at)
			e = c.do(x)
			eachCrash(d, func(z *disk.Disk) {
				wantOneOf(t, z, []list{has("a=1 b=2"), c.list(has("a=1 b=2"))})
				wantTold(t, openName(t, z, "t2"), has("a=other"))
			})
		}
	}
}

// P13.4: a table behind an ErrDiskOff is not to be used any more; what is asked of it still ends, and does not panic, and what lies there stays a table.
func TestUsedBehindPowerGone(t *testing.T) {
	for _, s := range states() {
		for _, c := range calls() {
			for at := range opsOf(t, s, c) {
				d, x := s.make(t)
				d.CutAt(d.Ops() + at)
				want(t, c.name, c.do(x), api.ErrDiskOff)
				d.CutAt(-1)
				for _, next := range calls() {
					next.do(x)
					x.All("")
					x.Get("a")
				}
				open(t, d)
			}
		}
	}
}
