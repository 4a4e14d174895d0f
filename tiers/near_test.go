package tiers_test

import (
	"strings"
	"testing"

	"tussock/api"
)

// P11.2, P11.3: what is kept within a budget, and which ones go for it: those used first, as few as need be. The words come one after the other, by Get or by Fetch.
func TestWhichOnesGo(t *testing.T) {
	for _, c := range []struct {
		budget     int
		come, used string
	}{
		{6, "a bb ccc", "a bb ccc"}, // just all objects' bytes
		{5, "a bb ccc", "bb ccc"},
		{4, "a bb ccc", "ccc"},
		{3, "a bb ccc", "ccc"}, // just the last one's bytes
		{2, "a bb ccc", "bb"},  // it is too heavy: nothing goes
		{1, "a bb ccc", "a"},
		{0, "a bb ccc", ""},
		{7, "a bb ccc dddd", "ccc dddd"}, // one going is not enough
		{8, "a bb ccc dddd", "ccc dddd"},
		{9, "a bb ccc dddd", "bb ccc dddd"},
		{10, "a bb ccc dddd", "a bb ccc dddd"},
		{6, "a bb ccc dddddd", "dddddd"}, // all go
		{6, "a bb ccc ddddddd", "a bb ccc"},
		{6, "ccc bb a dd", "bb a dd"},
		{6, "ccc bb a eeee", "a eeee"},
		{6, "ccc bb a eeeeee a", "a"},
		{6, "ccc bb a eeeee a", "eeeee a"},
		{3, "a b c d e f a", "e f a"},
		{3, "a a b b a c a d", "c a d"}, // a was used between
		{6, "dddd a bb a dddd", "a dddd"},
	} {
		got := newBench(t, layout{far: c.come, memory: 1000, disk: c.budget})
		fetched := newBench(t, layout{far: c.come, memory: 1000, disk: c.budget})
		for _, w := range strings.Fields(c.come) {
			wantGet(t, got.Tiers, w)
			if !fetched.near.Has(idOf(w)) { // else it would not be used
				fetched.wantFetch(t, w, api.OK)
			} else {
				wantGet(t, fetched.Tiers, w)
			}
		}
		got.wantUsed(t, c.used)
		fetched.wantUsed(t, c.used)
		if got.near.Bytes() > c.budget {
			t.Errorf("%d bytes, of a budget of %d", got.near.Bytes(), c.budget)
		}
		if t.Failed() {
			t.Fatalf("%q with a budget of %d", c.come, c.budget)
		}
	}
}

// P11.2: an object without bytes takes no room: it goes only with those behind which it was used.
func TestObjectsWithoutBytes(t *testing.T) {
	empty := idOf("")
	b := newBench(t, layout{far: "aa bb", memory: 1000, disk: 2})
	b.far.has = append(b.far.has, of(""))
	wantObject(t, b.Tiers, of(""))
	wantGet(t, b.Tiers, "aa")
	wantIds(t, "Used", b.Used(), []string{empty, idOf("aa")})
	wantGet(t, b.Tiers, "bb")
	b.wantUsed(t, "bb") // the first ones go, also where the second one alone is enough
	wantObject(t, b.Tiers, of(""))
	wantIds(t, "Used", b.Used(), []string{idOf("bb"), empty})
	wantGet(t, b.Tiers, "aa")
	wantIds(t, "Used", b.Used(), []string{empty, idOf("aa")})
}

// P11.2: what is heavier than near's budget is answered each time, from afar each time, and is nowhere.
func TestHeavierThanTheBudget(t *testing.T) {
	b := newBench(t, layout{own: "o", near: "n", far: "heavy", memory: 1000, disk: 4})
	for range 3 {
		wantGet(t, b.Tiers, "heavy")
		b.wantFetch(t, "heavy", api.OK)
		b.wantAsked(t, "heavy", "heavy")
		b.wantUsed(t, "n")
		b.wantMemory(t, "")
	}
}

// P11.2, P11.4: each way in which an object of near is used by a Get: from memory, from own, from near, from afar.
func TestUsedByGet(t *testing.T) {
	b := newBench(t, layout{own: "both", near: "both n m", far: "f", memory: 1000, disk: 100})
	never := rising("both n m")
	b.wantUsed(t, strings.Join(never, " "))
	for _, w := range never { // from the stores: each of them becomes the one used last
		wantGet(t, b.Tiers, w)
		wantIds(t, "Used", b.Used()[2:], ids(w))
	}
	wantGet(t, b.Tiers, "f")
	b.wantUsed(t, strings.Join(never, " ")+" f")
	wantGet(t, b.Tiers, "m both n") // from memory
	b.wantUsed(t, "f m both n")
	b.join(t, 0, 100)
	wantGet(t, b.Tiers, "m f both n m") // never from memory
	b.wantUsed(t, "f both n m")
	b.wantMemory(t, "")
}

// P11.2: what own alone has is none of near's; nor does a Get that answers an error use anything.
func TestNotUsedByGet(t *testing.T) {
	b := newBench(t, layout{own: "o", near: "n m", memory: 1000, disk: 100})
	order := rising("n m")
	wantGet(t, b.Tiers, order[0])
	wantGet(t, b.Tiers, "o")
	wantNoGet(t, b.Tiers, idOf("x"), api.ErrMissing)
	b.nearDisk.FailAt(b.nearDisk.Ops())
	wantNoGet(t, b.Tiers, idOf(order[1]), api.ErrDiskIO)
	b.wantUsed(t, order[1]+" "+order[0])
}

// P11.3: Fetch uses what it keeps, in the order of far's answer, and nothing that is here already.
func TestUsedByFetch(t *testing.T) {
	b := newBench(t, layout{near: "n", far: "a b c", memory: 1000, disk: 100})
	b.far.say(objects("c a b c a")...)
	b.wantFetch(t, "a n b c", api.OK)
	b.wantUsed(t, "n c a b")
	b.wantFetch(t, "c n", api.OK)
	b.wantUsed(t, "n c a b")
	b.wantMemory(t, "")
}

// P11.2, P11.4: what near had ahead of New stands ahead of all that is used, by rising ids, and goes so.
func TestWhatNearHadAheadOfNew(t *testing.T) {
	words := "aa bb cc dd ee"
	b := newBench(t, layout{near: words, far: "ff gggggg", memory: 1000, disk: 10})
	order := rising(words)
	b.wantUsed(t, strings.Join(order, " "))
	wantGet(t, b.Tiers, order[0]+" "+order[3])
	wantGet(t, b.Tiers, "ff")
	b.wantUsed(t, strings.Join([]string{order[2], order[4], order[0], order[3], "ff"}, " "))
	wantGet(t, b.Tiers, "gggggg")
	b.wantUsed(t, strings.Join([]string{order[3], "ff", "gggggg"}, " "))
}

// P11.4: many that were never used, and some that were.
func TestManyNeverUsed(t *testing.T) {
	var words []string
	for i := range 100 {
		words = append(words, "w"+strings.Repeat("x", i))
	}
	b := newBench(t, layout{near: strings.Join(words, " "), memory: 0, disk: ample})
	order := rising(strings.Join(words, " "))
	for i := range 50 {
		wantGet(t, b.Tiers, order[0])
		order = append(order[1:], order[0])
		if i%10 == 0 {
			b.wantUsed(t, strings.Join(order, " "))
		}
	}
	b.wantUsed(t, strings.Join(order, " "))
}

// P11.2, P11.4: what went, and others laid there again, was used all the same: it stands behind what never was, ahead of what was used since.
func TestGoneAndLaidAgainByOthers(t *testing.T) {
	for _, first := range rising("yy zz") {
		second := strings.Trim("yy zz", first+" ")
		b := newBench(t, layout{far: first + " aaaa", memory: 1000, disk: 5})
		wantGet(t, b.Tiers, first+" aaaa")
		b.wantUsed(t, "aaaa")
		want(t, "near.Put", b.near.Put(objects("yy zz")...), api.OK)
		b.wantUsed(t, second+" "+first+" aaaa")
	}
}

// P11.2: near had more than its budget ahead of New, or others laid it there: it stays till something is kept, then it must fit.
func TestNearBeyondItsBudget(t *testing.T) {
	words := "aaa bbb ccc"
	for _, by := range []string{"ahead", "meanwhile"} {
		l := layout{near: words, far: "ff", memory: 1000, disk: 5}
		if by == "meanwhile" {
			l.near = ""
		}
		b := newBench(t, l)
		want(t, "near.Put", b.near.Put(objects(words)...), api.OK)
		order := rising(words)
		wantGet(t, b.Tiers, words)
		b.wantUsed(t, words)
		b.join(t, 1000, 5)
		wantGet(t, b.Tiers, order[1])
		b.wantAsked(t)
		b.wantUsed(t, order[0]+" "+order[2]+" "+order[1])
		wantGet(t, b.Tiers, "ff")
		b.wantUsed(t, order[1]+" ff")
	}
}

// P11.2, P11.4: what others lay into near was never used, whatever was; what they take away is none of near's, also if memory still has it.
func TestOthersLayAndTakeAway(t *testing.T) {
	b := newBench(t, layout{far: "aa bb cc dd", memory: 1000, disk: 8})
	wantGet(t, b.Tiers, "aa bb")
	want(t, "near.Put", b.near.Put(objects("yy zz")...), api.OK)
	never := strings.Join(rising("yy zz"), " ")
	b.wantUsed(t, never+" aa bb")
	want(t, "near.Keep", b.near.Keep(ids("yy zz bb")...), api.OK)
	b.wantUsed(t, never+" bb")
	b.wantMemory(t, "bb aa")
	wantGet(t, b.Tiers, "aa")
	b.wantAsked(t, "aa", "bb", "aa")
	b.wantUsed(t, never+" bb aa")
	wantGet(t, b.Tiers, "cc")
	b.wantUsed(t, rising("yy zz")[1]+" bb aa cc")
	b.wantMemory(t, "cc aa bb")
}

// P11.2: what goes from near stays in memory, till it is asked for; Fetch lays it there again, and memory tells it.
func TestGoneFromNearInMemory(t *testing.T) {
	b := newBench(t, layout{far: "aa bb", memory: 1000, disk: 3})
	wantGet(t, b.Tiers, "aa bb")
	b.wantMemory(t, "bb aa")
	b.wantUsed(t, "bb")
	b.wantFetch(t, "aa", api.OK)
	b.wantMemory(t, "bb aa")
	b.wantUsed(t, "aa")
	b.wantAsked(t, "aa", "bb", "aa")
	if took := b.opsTaken(func() { wantGet(t, b.Tiers, "aa") }); took != [2]int{} {
		t.Errorf("the operations %d", took)
	}
	b.wantMemory(t, "aa bb")
	wantGet(t, b.Tiers, "bb")
	b.wantAsked(t, "bb")
	b.wantMemory(t, "bb aa")
}

// P11.2: an object that own has already is kept none the less, if far was asked for it: near hasn't it.
func TestOwnGetsItMeanwhile(t *testing.T) {
	b := newBench(t, layout{memory: 1000, disk: 100})
	b.far.says = func([]string) ([]api.Object, api.Errno) {
		b.own.Put(of("a"))
		return objects("a"), api.OK
	}
	wantGet(t, b.Tiers, "a")
	b.wantUsed(t, "a")
	b.wantMemory(t, "a")
}
