package tiers_test

import (
	"slices"
	"testing"
	"unsafe"

	"tussock/api"
)

// lent is a text that its owner changes afterwards all the same.
func lent(s string) (string, []byte) {
	b := []byte(s)
	return unsafe.String(unsafe.SliceData(b), len(b)), b
}

// spoil writes into a list that was handed out, and into its spare room.
func spoil(l []string) {
	l = l[:cap(l)]
	for i := range l {
		l[i] = "spoilt"
	}
}

// R3: lists that were handed out are the caller's.
func TestWhatIsHandedOutIsNew(t *testing.T) {
	b := newBench(t, layout{near: "n m", far: "a b c", memory: 1000, disk: 100})
	wantGet(t, b.Tiers, "n m a b c")
	for range 2 {
		used, memory := b.Used(), b.Memory()
		spoil(b.Used())
		spoil(b.Memory())
		wantIds(t, "Used, ahead", used, ids("n m a b c"))
		wantIds(t, "Memory, ahead", memory, ids("c b a m n"))
		_, _ = append(used[:1], "more"), append(memory[:1], "more")
		b.wantUsed(t, "n m a b c")
		b.wantMemory(t, "c b a m n")
	}
	wantGet(t, b.Tiers, "n m a b c")
	b.wantAsked(t, "a", "b", "c")
}

// R3: ids that are handed in stay as they are, their spare room too, also where far writes into what it is given; they are not kept.
func TestWhatIsHandedInStays(t *testing.T) {
	b := newBench(t, layout{own: "o", near: "n", far: "a b", memory: 1000, disk: 100})
	b.far.says = func(asked []string) ([]api.Object, api.Errno) {
		spoil(asked)
		return objects("b a"), api.OK
	}
	for _, words := range []string{"a b", "b o a b n a"} {
		room := append(ids(words), "spare", "room")
		before := slices.Clone(room)
		want(t, "near.Keep", b.near.Keep(idOf("n")), api.OK)
		want(t, "Fetch", b.Fetch(room[:len(room)-2]...), api.OK)
		wantIds(t, "what was handed in", room, before)
		spoil(room)
		b.wantUsed(t, "n b a")
	}
	want(t, "near.Keep", b.near.Keep(), api.OK)
	wantGet(t, b.Tiers, "a")
}

// R3: ids that far keeps are its own: later calls do not write into them.
func TestIdsThatFarKeeps(t *testing.T) {
	b := newBench(t, layout{far: "a b c d", memory: 1000, disk: 100})
	var kept [][]string
	answer := b.far.answer
	x := newTiers(t, b.own, b.near, 1000, 100, func(ids ...string) ([]api.Object, api.Errno) {
		kept = append(kept, ids)
		return answer(ids...)
	})
	want(t, "Fetch", x.Fetch(ids("b a")...), api.OK)
	wantGet(t, x, "c")
	want(t, "Fetch", x.Fetch(ids("a d")...), api.OK)
	for i, words := range []string{"b a", "c", "d"} {
		wantIds(t, "what far was given", kept[i], ids(words))
	}
}

// R3: objects that far answered, and changes afterwards.
func TestWhatFarAnswersIsNotKept(t *testing.T) {
	b := newBench(t, layout{memory: 1000, disk: 100})
	var lentOnes [][]byte
	objs := make([]api.Object, 1, 4)
	b.far.says = func(ids []string) ([]api.Object, api.Errno) {
		id, c := lent(idOf("text"))
		bytes, d := lent("text")
		lentOnes = append(lentOnes, c, d)
		objs[0] = api.Object{Id: id, Bytes: bytes}
		return objs, api.OK
	}
	shared, c := lent(idOf("text"))
	got, e := b.Get(shared)
	if !slices.Equal(objs[:cap(objs)][1:], make([]api.Object, 3)) {
		t.Error("what far answered is written into")
	}
	objs[0] = api.Object{Id: "changed", Bytes: "changed"}
	for _, l := range append(lentOnes, c) {
		clear(l)
	}
	if got != "text" || e != api.OK {
		t.Errorf("Get: %q, %d", got, e)
	}
	b.wantUsed(t, "text")
	b.wantMemory(t, "text")
	wantGet(t, b.Tiers, "text")

	want(t, "near.Keep", b.near.Keep(), api.OK)
	lentOnes = nil
	shared, c = lent(idOf("text"))
	want(t, "Fetch", b.Fetch(shared), api.OK)
	for _, l := range append(lentOnes, c) {
		clear(l)
	}
	b.wantUsed(t, "text")
	b.join(t, 1000, 100)
	wantGet(t, b.Tiers, "text")
}

// R3: an id by which an object of near was used is not kept.
func TestIdsAreNotKept(t *testing.T) {
	b := newBench(t, layout{near: "n m", memory: 1000, disk: 100})
	order := rising("n m")
	shared, c := lent(idOf(order[0]))
	for range 2 {
		if got, e := b.Get(shared); got != order[0] || e != api.OK {
			t.Errorf("Get: %q, %d", got, e)
		}
	}
	clear(c)
	b.wantUsed(t, order[1]+" "+order[0])
	b.wantMemory(t, order[0])
}

// R4: tiers over stores of their own know nothing of one another.
func TestTwoTiersInTurns(t *testing.T) {
	one := newBench(t, layout{own: "o", far: "a b", memory: 1000, disk: 1})
	other := newBench(t, layout{near: "o", far: "a c", memory: 40, disk: 100})
	wantGet(t, one.Tiers, "o a")
	wantGet(t, other.Tiers, "o a c")
	wantGet(t, one.Tiers, "b")
	wantNoGet(t, one.Tiers, idOf("c"), api.ErrMissing)
	wantNoGet(t, other.Tiers, idOf("b"), api.ErrMissing)
	one.wantUsed(t, "b")
	one.wantMemory(t, "b a o")
	one.wantAsked(t, "a", "b", "?")
	other.wantUsed(t, "o a c")
	other.wantMemory(t, "c")
	other.wantAsked(t, "a", "c", "?")
}
