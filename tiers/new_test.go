package tiers_test

import (
	"math"
	"testing"

	"tussock/api"
	"tussock/store"
	"tussock/tiers"
)

// P11.1: own nil, near nil, both: whatever else there is.
func TestNewOfNilStores(t *testing.T) {
	b := newBench(t, layout{own: "a", near: "b", far: "c"})
	for _, far := range []tiers.Far{nil, b.far.answer} {
		for _, budget := range []int{-1, 0, 100} {
			x, e := tiers.New(nil, b.near, budget, budget, far)
			wantNone(t, x, e)
			x, e = tiers.New(b.own, nil, budget, budget, far)
			wantNone(t, x, e)
			x, e = tiers.New(nil, nil, budget, budget, far)
			wantNone(t, x, e)
		}
	}
	b.wantAsked(t)
}

func wantNone(t *testing.T, x *tiers.Tiers, e api.Errno) {
	t.Helper()
	if x != nil || e != api.ErrNil {
		t.Errorf("New: %v, %d; want ErrNil", x, e)
	}
}

// P11.1: nothing is in memory, whatever the stores have; nothing is done to them, and far is not asked.
func TestNewHasNothingInMemory(t *testing.T) {
	b := newBench(t, layout{own: "a b", near: "c d", far: "e", memory: 1000, disk: 1})
	own, near := b.ownDisk.Ops(), b.nearDisk.Ops()
	for range 2 {
		b.join(t, 1000, 1)
		b.wantMemory(t, "")
	}
	if b.ownDisk.Ops() != own || b.nearDisk.Ops() != near {
		t.Error("New works on the disks")
	}
	b.wantAsked(t)
	wantStore(t, b.ownDisk, "own", "a b")
	wantStore(t, b.nearDisk, "near", "c d") // which is more than the budget, but not by tiers
}

// P11.1: tiers that are made anew over the same stores know nothing of what was used, or in memory.
func TestNewAgain(t *testing.T) {
	b := newBench(t, layout{own: "a", near: "b c", memory: 1000, disk: 100})
	order := rising("b c")
	wantGet(t, b.Tiers, "a "+order[0])
	b.wantUsed(t, order[1]+" "+order[0])
	b.join(t, 1000, 100)
	b.wantMemory(t, "")
	b.wantUsed(t, order[0]+" "+order[1])
}

// P11.1: a budget of memory below 0 is one of 0: an id alone has more bytes.
func TestMemoryBelowNought(t *testing.T) {
	for _, budget := range []int{0, -1, -1000, math.MinInt} {
		b := newBench(t, layout{own: "a", near: "b", far: "c", memory: budget, disk: 100})
		b.far.has = append(b.far.has, of(""))
		wantGet(t, b.Tiers, "a b c a b c")
		wantObject(t, b.Tiers, of(""))
		b.wantMemory(t, "")
	}
}

// P11.1: a budget of near's below 0 is one of 0: what has no bytes is kept all the same.
func TestDiskBelowNought(t *testing.T) {
	for _, budget := range []int{0, -1, -1000, math.MinInt} {
		b := newBench(t, layout{far: "c", memory: 1000, disk: budget})
		b.far.has = append(b.far.has, of(""))
		wantGet(t, b.Tiers, "c")
		b.wantUsed(t, "")
		b.wantMemory(t, "")
		wantObject(t, b.Tiers, of(""))
		wantIds(t, "Used", b.Used(), []string{idOf("")})
		wantIds(t, "Memory", b.Memory(), []string{idOf("")})
	}
}

// P11.1: budgets that are as great as a number can be.
func TestGreatestBudgets(t *testing.T) {
	b := newBench(t, layout{own: "a", near: "b", far: "c", memory: math.MaxInt, disk: math.MaxInt})
	wantGet(t, b.Tiers, "a b c")
	b.wantUsed(t, "b c")
	b.wantMemory(t, "c b a")
}

// P11.1: what others do to the stores counts from then on.
func TestOthersWorkOnTheStores(t *testing.T) {
	b := newBench(t, layout{far: "a b", memory: 1000, disk: 100})
	want(t, "own.Put", b.own.Put(of("a")), api.OK)
	want(t, "near.Put", b.near.Put(of("b")), api.OK)
	wantGet(t, b.Tiers, "a b")
	b.wantFetch(t, "a b", api.OK)
	b.wantAsked(t)
	want(t, "own.Keep", b.own.Keep(), api.OK)
	want(t, "near.Keep", b.near.Keep(), api.OK)
	b.wantFetch(t, "b", api.OK)
	wantGet(t, b.Tiers, "a")
	b.wantAsked(t, "b", "a")
	b.wantUsed(t, "b a")
}

// P11.1: two tiers over the same stores are others to one another.
func TestTwoTiersOverTheSameStores(t *testing.T) {
	b := newBench(t, layout{far: "aa bb", memory: 1000, disk: 3})
	other := newTiers(t, b.own, b.near, 1000, 3, b.far.answer)
	wantGet(t, b.Tiers, "aa")
	wantGet(t, other, "aa")
	b.wantAsked(t, "aa")
	wantGet(t, other, "bb")
	wantGet(t, b.Tiers, "bb aa")
	b.wantAsked(t, "bb", "aa")
	wantIds(t, "Used", other.Used(), ids("aa"))
	b.wantUsed(t, "aa")
	b.wantMemory(t, "aa bb")
	wantIds(t, "Memory", other.Memory(), ids("bb aa"))
}

// P11.1, P11.2: own and near may be one store: what comes from afar comes there, and what goes goes from there.
func TestOneStoreForBoth(t *testing.T) {
	b := newBench(t, layout{own: "xxx", far: "yyyy zzzzz"})
	x := newTiers(t, b.own, b.own, 1000, 8, b.far.answer)
	wantGet(t, x, "xxx yyyy")
	wantIds(t, "Used", x.Used(), ids("xxx yyyy"))
	wantGet(t, x, "xxx yyyy")
	b.wantAsked(t, "yyyy")
	wantGet(t, x, "xxx zzzzz")
	wantIds(t, "Used", x.Used(), ids("xxx zzzzz"))
	wantStore(t, b.ownDisk, "own", "xxx zzzzz")
	want(t, "Fetch", x.Fetch(ids("xxx zzzzz")...), api.OK)
	b.wantAsked(t, "zzzzz")
}

// P11.2: as own has it, its bytes are own's: they are not taken away when they turn.
func TestOneStoreForBothTurned(t *testing.T) {
	b := newBench(t, layout{own: "xxx", far: "xxx"})
	x := newTiers(t, b.own, b.own, 1000, 8, b.far.answer)
	turn(t, b.ownDisk, "own", "xxx")
	wantNoGet(t, x, idOf("xxx"), api.ErrStoreCorrupt)
	b.wantAsked(t)
	wantIds(t, "Used", x.Used(), ids("xxx"))
	wantStore(t, b.ownDisk, "own", "xxx")
}

// P11.2 to P11.4, R4: nil tiers, and tiers that New did not give.
func TestNilTiers(t *testing.T) {
	for _, x := range []*tiers.Tiers{nil, {}} {
		for _, id := range []string{"", idOf("a"), "x"} {
			wantNoGet(t, x, id, api.ErrNil)
			want(t, "Fetch", x.Fetch(id, id), api.ErrNil)
		}
		want(t, "Fetch", x.Fetch(), api.ErrNil)
		if len(x.Used()) != 0 || len(x.Memory()) != 0 {
			t.Errorf("Used: %x, Memory: %x; want none", x.Used(), x.Memory())
		}
	}
}

// R4: stores that Open did not give are no reason to panic.
func TestStoresThatOpenDidNotGive(t *testing.T) {
	b := newBench(t, layout{far: "b"})
	for _, far := range []tiers.Far{nil, b.far.answer} {
		x := newTiers(t, &store.Store{}, &store.Store{}, 100, 100, far)
		x.Get(idOf("a"))
		x.Get(idOf("b"))
		x.Fetch(ids("a b")...)
		if len(x.Used()) != 0 || len(x.Memory()) != 0 {
			t.Errorf("Used: %x, Memory: %x; want none", x.Used(), x.Memory())
		}
	}
}
