package tiers_test

import (
	"strings"
	"testing"

	"tussock/api"
)

// P11.2: near's bytes are not their own any more: they are taken away, and the object comes from afar, as one used last.
func TestTurnedInNear(t *testing.T) {
	for _, bad := range []string{"aaa", "bbb", "ccc"} {
		b := newBench(t, layout{near: "aaa bbb ccc", far: "aaa bbb ccc", memory: 1000, disk: 9})
		b.turnNear(t, bad)
		wantGet(t, b.Tiers, bad)
		b.wantAsked(t, bad)
		rest := strings.Join(rising(strings.Replace("aaa bbb ccc", bad, "", 1)), " ")
		b.wantUsed(t, rest+" "+bad)
		b.wantMemory(t, bad)
		wantGet(t, b.Tiers, rest+" "+bad)
		b.join(t, 0, 9)
		wantGet(t, b.Tiers, "aaa bbb ccc")
		b.wantAsked(t)
	}
}

// P11.2: without far, or one that has it not, or one that fails: it is gone none the less.
func TestTurnedInNearWithoutHelp(t *testing.T) {
	for _, c := range []struct {
		name string
		far  func(b *bench)
		e    api.Errno
	}{
		{"nothing", func(b *bench) { b.far.say() }, api.ErrMissing},
		{"another one", func(b *bench) { b.far.say(of("bbb"), api.Object{Id: idOf("aaa"), Bytes: "aab"}) }, api.ErrMissing},
		{"an error", func(b *bench) { b.far.fail(api.ErrRemoteUnavailable) }, api.ErrRemoteUnavailable},
	} {
		b := newBench(t, layout{near: "aaa bbb", far: "aaa", memory: 1000, disk: 9})
		c.far(b)
		b.turnNear(t, "aaa")
		wantNoGet(t, b.Tiers, idOf("aaa"), c.e)
		b.wantUsed(t, "bbb")
		b.wantMemory(t, "")
		wantNoGet(t, b.Tiers, idOf("aaa"), c.e)
		wantGet(t, b.Tiers, "bbb")
		b.wantAsked(t, "aaa", "aaa")
	}
	b := newBench(t, layout{near: "aaa bbb"})
	x := newTiers(t, b.own, b.near, 1000, 9, nil)
	b.turnNear(t, "aaa")
	wantNoGet(t, x, idOf("aaa"), api.ErrMissing)
	wantIds(t, "Used", x.Used(), ids("bbb"))
	wantStore(t, b.nearDisk, "near", "bbb")
	wantGet(t, x, "bbb")
}

// P11.2: if it can't be taken away, that error is the answer; all is as it was, and goes on.
func TestTurnedInNearAndKeepFails(t *testing.T) {
	for _, c := range []struct {
		name       string
		harm, mend func(b *bench)
		e          api.Errno
	}{
		{"the disk is full", func(b *bench) { b.nearDisk.SetRoom(0) }, func(b *bench) { b.nearDisk.SetRoom(ample) }, api.ErrDiskFull},
		{"an operation fails", func(b *bench) { b.nearDisk.FailAt(b.nearDisk.Ops() + 3) }, func(b *bench) {}, api.ErrDiskIO},
		{"another one is turned, too", func(b *bench) { b.turnNear(t, "bbb") }, func(b *bench) { b.turnNear(t, "bbb") }, api.ErrStoreCorrupt},
	} {
		b := newBench(t, layout{near: "aaa bbb", far: "aaa", memory: 1000, disk: 9})
		before := strings.Join(rising("aaa bbb"), " ")
		b.turnNear(t, "aaa")
		c.harm(b)
		wantNoGet(t, b.Tiers, idOf("aaa"), c.e)
		b.wantAsked(t)
		b.wantUsed(t, before)
		b.wantMemory(t, "")
		c.mend(b)
		wantGet(t, b.Tiers, "aaa")
		b.wantAsked(t, "aaa")
		b.wantUsed(t, "bbb aaa")
		if t.Failed() {
			t.Fatal(c.name)
		}
	}
}

// P11.2: an operation that fails at the read itself is no sign that bytes turned: nothing is taken away.
func TestReadThatFails(t *testing.T) {
	b := newBench(t, layout{own: "o", near: "n", far: "o n", memory: 1000, disk: 9})
	b.ownDisk.FailAt(b.ownDisk.Ops())
	b.nearDisk.FailAt(b.nearDisk.Ops())
	wantNoGet(t, b.Tiers, idOf("o"), api.ErrDiskIO)
	wantNoGet(t, b.Tiers, idOf("n"), api.ErrDiskIO)
	b.wantMemory(t, "")
	b.wantUsed(t, "n")
	wantGet(t, b.Tiers, "o n")
	b.wantAsked(t)
}

// P11.2: own's bytes that turned are answered by own's error, also where near has the object, and far: nothing is taken away.
func TestTurnedInOwn(t *testing.T) {
	for _, near := range []string{"", "aaa"} {
		b := newBench(t, layout{own: "aaa bbb", near: near, far: "aaa bbb", memory: 1000, disk: 9})
		turn(t, b.ownDisk, "own", "aaa")
		for range 2 {
			wantNoGet(t, b.Tiers, idOf("aaa"), api.ErrStoreCorrupt)
		}
		b.wantFetch(t, "aaa", api.OK) // it is here
		b.wantMemory(t, "")
		b.wantAsked(t)
		b.wantUsed(t, near)
		wantStore(t, b.ownDisk, "own", "aaa bbb")
		turn(t, b.ownDisk, "own", "aaa")
		wantGet(t, b.Tiers, "aaa bbb")
	}
}

// P11.2, P11.5: where memory, or own, tells the bytes, nobody sees that near's turned.
func TestTurnedInNearUnseen(t *testing.T) {
	b := newBench(t, layout{own: "both", near: "both aaa", far: "both aaa", memory: 1000, disk: 9})
	wantGet(t, b.Tiers, "aaa")
	b.turnNear(t, "aaa both")
	wantGet(t, b.Tiers, "aaa both aaa both")
	b.wantUsed(t, "aaa both")
	b.wantFetch(t, "aaa both", api.OK)
	b.wantAsked(t)
}

// P11.2: with own's turned in memory already, memory tells them.
func TestTurnedInOwnUnseen(t *testing.T) {
	b := newBench(t, layout{own: "aaa", memory: 1000, disk: 9})
	wantGet(t, b.Tiers, "aaa")
	turn(t, b.ownDisk, "own", "aaa")
	wantGet(t, b.Tiers, "aaa")
	b.join(t, 1000, 9)
	wantNoGet(t, b.Tiers, idOf("aaa"), api.ErrStoreCorrupt)
}

// P11.3: an object of near's whose bytes turned is here: Fetch does not ask for it.
func TestFetchOfTurned(t *testing.T) {
	b := newBench(t, layout{near: "aaa", far: "aaa", memory: 1000, disk: 9})
	b.turnNear(t, "aaa")
	b.wantFetch(t, "aaa", api.OK)
	b.wantAsked(t)
	b.wantUsed(t, "aaa")
}

// P11.2: what turned and is to go goes, whether it was used ahead or not; what turned and is to stay hinders Keep, so that what came is not kept.
func TestTurnedAndToGo(t *testing.T) {
	order := rising("aaa bbb ccc")
	for _, used := range []bool{false, true} {
		for bad, name := range order {
			for goes := range 4 {
				come := []string{"", "ddd", "dddddd", "ddddddddd"}[goes]
				b := newBench(t, layout{near: "aaa bbb ccc", far: come, memory: 0, disk: 9})
				if used {
					wantGet(t, b.Tiers, strings.Join(order, " "))
				}
				b.turnNear(t, name)
				wantGet(t, b.Tiers, come)
				if bad >= goes && goes > 0 {
					b.wantUsed(t, strings.Join(order, " "))
				} else {
					b.wantUsed(t, strings.Join(order[goes:], " ")+" "+come)
				}
				if t.Failed() {
					t.Fatalf("%d go, %d is turned", goes, bad)
				}
			}
		}
	}
}

// P11.2: several that turned: all of them go, or none, if one of them is to stay.
func TestSeveralTurnedAndToGo(t *testing.T) {
	order := rising("aaa bbb ccc ddd")
	all := strings.Join(order, " ")
	for _, c := range []struct{ used, turned, come, left string }{
		{"", order[0] + " " + order[1], "fffffffff", order[3] + " fffffffff"},
		{"", order[0] + " " + order[1], "f", all},
		{"", order[1] + " " + order[3], "fff", all},
		{all, order[0] + " " + order[1], "fff", all},
		{all, order[0] + " " + order[1], "ffffff", order[2] + " " + order[3] + " ffffff"},
		{all, order[0] + " " + order[1], "fffffffff", order[3] + " fffffffff"},
		{all, order[1] + " " + order[2], "ffffff", all},
		{all, all, "fffffffff", all},
		{all, all, "ffffffffffff", "ffffffffffff"},
	} {
		b := newBench(t, layout{near: all, far: c.come, memory: 0, disk: 12})
		wantGet(t, b.Tiers, c.used)
		b.turnNear(t, c.turned)
		wantGet(t, b.Tiers, c.come)
		b.wantUsed(t, c.left)
		if t.Failed() {
			t.Fatalf("%q used, %q turned, %q comes", c.used, c.turned, c.come)
		}
	}
}

// P11.2, P11.5: several that turned, of which nobody can tell how many bytes each has: what comes is answered, and near has no more than its budget.
func TestSeveralTurnedThatNobodyWeighed(t *testing.T) {
	all := strings.Join(rising("a bb ccc dddd"), " ")
	for _, come := range []string{"e", "ee", "eee", "eeee", "eeeee", "eeeeeeeee", "eeeeeeeeee"} {
		b := newBench(t, layout{near: all, far: come, memory: 0, disk: 10})
		b.turnNear(t, all)
		wantGet(t, b.Tiers, come)
		if b.near.Bytes() > 10 {
			t.Errorf("near has %d bytes", b.near.Bytes())
		}
	}
}

// P11.5: each byte of near's files turned, one at a time, in a store that is open: Get answers the object's bytes all the same, as far has them, and near has no more than its budget.
func TestEachByteOfNearTurned(t *testing.T) {
	l := layout{near: "aaa bbb ccc", far: "aaa bbb ccc ddd", memory: 0, disk: 9}
	b := newBench(t, l)
	for _, name := range b.nearDisk.Names() {
		for at := range b.nearDisk.Size(name) {
			x := newBench(t, l)
			want(t, "Turn", x.nearDisk.Turn(name, at, 1), api.OK)
			for _, w := range []string{"ddd", "ccc", "aaa", "bbb", "ddd", "aaa"} {
				wantGet(t, x.Tiers, w)
				if x.near.Bytes() > 9 {
					t.Errorf("near has %d bytes", x.near.Bytes())
				}
			}
		}
	}
}
