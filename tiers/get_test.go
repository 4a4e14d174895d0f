package tiers_test

import (
	"slices"
	"strings"
	"testing"

	"tussock/api"
)

// P11.2, P11.4: the chapter's examples.
func TestExamples(t *testing.T) {
	b := newBench(t, layout{own: "xxx", far: "yyyy zzzzz", memory: 1000, disk: 8})
	wantGet(t, b.Tiers, "xxx")
	b.wantMemory(t, "xxx")
	b.wantAsked(t)
	wantGet(t, b.Tiers, "yyyy yyyy")
	b.wantUsed(t, "yyyy")
	b.wantAsked(t, "yyyy")
	wantGet(t, b.Tiers, "zzzzz")
	b.wantUsed(t, "zzzzz")
	wantGet(t, b.Tiers, "yyyy")
	b.wantAsked(t, "zzzzz", "yyyy")
	wantNoGet(t, b.Tiers, idOf("none"), api.ErrMissing)
	b.wantAsked(t, "?")
}

// opsTaken is how many operations of own's and of near's disk a body takes.
func (b *bench) opsTaken(body func()) [2]int {
	own, near := b.ownDisk.Ops(), b.nearDisk.Ops()
	body()
	return [2]int{b.ownDisk.Ops() - own, b.nearDisk.Ops() - near}
}

// P11.2: memory is asked ahead of own, own ahead of near, near ahead of far: nobody behind the first who has it is troubled.
func TestWhereAnObjectComesFrom(t *testing.T) {
	for _, c := range []struct {
		word      string
		own, near bool
	}{{"o", true, false}, {"n", false, true}, {"both", true, false}} {
		b := newBench(t, layout{own: "o both", near: "n both", far: "o n both", memory: 1000, disk: 100})
		took := b.opsTaken(func() { wantGet(t, b.Tiers, c.word) })
		if took[0] > 0 != c.own || took[1] > 0 != c.near {
			t.Errorf("%s: the operations %d", c.word, took)
		}
		b.wantMemory(t, c.word)
		if took := b.opsTaken(func() { wantGet(t, b.Tiers, c.word) }); took != [2]int{} {
			t.Errorf("%s again: the operations %d", c.word, took)
		}
		b.wantAsked(t)
	}
}

// P11.2: what was read is put into memory, in the order of use; what memory has is used there.
func TestWhatIsPutIntoMemory(t *testing.T) {
	b := newBench(t, layout{own: "a b", near: "c", far: "d", memory: 4 * 33, disk: 100})
	wantGet(t, b.Tiers, "a c d b")
	b.wantMemory(t, "b d c a")
	wantGet(t, b.Tiers, "c")
	b.wantMemory(t, "c b d a")
	wantGet(t, b.Tiers, "c a")
	b.wantMemory(t, "a c b d")
	b.wantAsked(t, "d")
}

// P11.2: a text of memory weighs its bytes and its id's: budgets of just one object, of one less, of just all.
func TestMemoryBudget(t *testing.T) {
	for _, c := range []struct {
		budget int
		memory string
	}{{32, ""}, {33, "a"}, {34, "bb"}, {35, "ccc"}, {36, "ccc"}, {35 + 33, "ccc"}, {35 + 34, "ccc bb"}, {35 + 34 + 32, "ccc bb"}, {35 + 34 + 33, "ccc bb a"}, {1000, "ccc bb a"}} {
		b := newBench(t, layout{own: "a", near: "bb", far: "ccc", memory: c.budget, disk: 100})
		wantGet(t, b.Tiers, "a bb ccc")
		b.wantMemory(t, c.memory)
		wantGet(t, b.Tiers, "a bb ccc")
		b.wantAsked(t, "ccc")
	}
}

// P11.2: an object that is not here any more is dropped from memory, and nothing else is; without far, too.
func TestDroppedFromMemory(t *testing.T) {
	b := newBench(t, layout{own: "a b", near: "c d", memory: 1000, disk: 100})
	wantGet(t, b.Tiers, "a b c d")
	want(t, "own.Keep", b.own.Keep(idOf("b")), api.OK)
	want(t, "near.Keep", b.near.Keep(idOf("d")), api.OK)
	b.wantMemory(t, "d c b a")
	wantNoGet(t, b.Tiers, idOf("a"), api.ErrMissing)
	b.wantMemory(t, "d c b")
	wantNoGet(t, b.Tiers, idOf("c"), api.ErrMissing)
	b.wantMemory(t, "d b")
	b.wantAsked(t, "?", "?")
	wantGet(t, b.Tiers, "b")
	b.wantMemory(t, "b d")
	b.wantUsed(t, "d")

	x := newTiers(t, b.own, b.near, 1000, 100, nil)
	wantGet(t, x, "b d")
	want(t, "own.Keep", b.own.Keep(), api.OK)
	wantNoGet(t, x, idOf("b"), api.ErrMissing)
	wantIds(t, "Memory", x.Memory(), ids("d"))
}

// P11.2: what one store lost is here, as long as the other one has it; memory goes on telling it.
func TestOneStoreLosesIt(t *testing.T) {
	for _, loses := range []string{"own", "near"} {
		b := newBench(t, layout{own: "a", near: "a", far: "a", memory: 1000, disk: 100})
		wantGet(t, b.Tiers, "a")
		if loses == "own" {
			want(t, "Keep", b.own.Keep(), api.OK)
		} else {
			want(t, "Keep", b.near.Keep(), api.OK)
		}
		if took := b.opsTaken(func() { wantGet(t, b.Tiers, "a") }); took != [2]int{} {
			t.Errorf("%s lost it: the operations %d", loses, took)
		}
		b.join(t, 0, 100)
		wantGet(t, b.Tiers, "a")
		b.wantAsked(t)
	}
}

// P11.2: without far what is here is answered, what is not here is missing.
func TestGetWithoutFar(t *testing.T) {
	b := newBench(t, layout{own: "a", near: "b"})
	x := newTiers(t, b.own, b.near, 100, 100, nil)
	for range 2 {
		wantGet(t, x, "a b")
		wantNoGet(t, x, idOf("c"), api.ErrMissing)
	}
	wantIds(t, "Used", x.Used(), ids("b"))
}

// P11.2: far is asked for the one id alone, whatever it is; ids of 0, 31, 33 bytes are no object's.
func TestIdsOfOtherLengths(t *testing.T) {
	right := idOf("a")
	for _, id := range []string{"", "x", right[:31], right + "\x00", right + right, strings.Repeat("\xFF", 32), strings.Repeat("x", 1000)} {
		b := newBench(t, layout{own: "a", near: "a", memory: 1000, disk: 100})
		var asked [][]string
		b.far.says = func(ids []string) ([]api.Object, api.Errno) {
			asked = append(asked, slices.Clone(ids))
			return []api.Object{{Id: id, Bytes: "a"}, of("a"), {Id: id}, {Id: id, Bytes: id}}, api.OK
		}
		wantNoGet(t, b.Tiers, id, api.ErrMissing)
		want(t, "Fetch", b.Fetch(id), api.ErrMissing)
		b.far.fail(77)
		wantNoGet(t, b.Tiers, id, 77)
		if len(asked) != 2 || !slices.Equal(asked[0], []string{id}) || !slices.Equal(asked[1], []string{id}) {
			t.Errorf("asked for %x; want %x", asked, id)
		}
		wantNoGet(t, newTiers(t, b.own, b.near, 100, 100, nil), id, api.ErrMissing)
		b.wantUsed(t, "a")
		b.wantMemory(t, "")
	}
}

// farErrors are some that far may answer: of layers' own, everybody's, none's.
var farErrors = []api.Errno{api.ErrRemoteUnavailable, api.ErrRemoteNone, api.ErrMissing, api.ErrNil, api.ErrStoreCorrupt, api.ErrDiskOff, 12345, -1}

// P11.2: far's error is the answer, also beside objects: none of them is kept.
func TestGetWithAnErrorOfFar(t *testing.T) {
	for _, e := range farErrors {
		b := newBench(t, layout{near: "n", far: "a b", memory: 1000, disk: 100})
		wantGet(t, b.Tiers, "n a")
		want(t, "near.Keep", b.near.Keep(idOf("n")), api.OK)
		b.far.fail(e)
		wantNoGet(t, b.Tiers, idOf("a"), e)
		wantNoGet(t, b.Tiers, idOf("b"), e)
		b.wantMemory(t, "n")
		b.wantUsed(t, "n")
		wantGet(t, b.Tiers, "n")
		b.wantAsked(t, "a", "a", "b")
		b.far.says = nil
		wantGet(t, b.Tiers, "b a")
		b.wantUsed(t, "n b a")
	}
}

// answers are what far may answer when it is asked for a's id, and whether that object counts among it.
func answers() []struct {
	name   string
	objs   []api.Object
	counts bool
} {
	a, b := of("a"), of("bb")
	wrong, other := api.Object{Id: a.Id, Bytes: "b"}, api.Object{Id: b.Id, Bytes: "a"}
	return []struct {
		name   string
		objs   []api.Object
		counts bool
	}{
		{"nil", nil, false},
		{"nothing", []api.Object{}, false},
		{"what was not asked for", []api.Object{b}, false},
		{"other bytes", []api.Object{wrong}, false},
		{"its bytes with another Id", []api.Object{other}, false},
		{"its bytes without an Id", []api.Object{{Bytes: "a"}}, false},
		{"its Id without bytes", []api.Object{{Id: a.Id}}, false},
		{"its bytes and one more", []api.Object{{Id: a.Id, Bytes: "a\x00"}}, false},
		{"an Id that begins its own", []api.Object{{Id: a.Id[:31], Bytes: "a"}}, false},
		{"zero objects", make([]api.Object, 5), false},
		{"all that is wrong", []api.Object{wrong, other, b, {}, wrong}, false},
		{"it", []api.Object{a}, true},
		{"it, twice", []api.Object{a, a}, true},
		{"it behind a wrong one", []api.Object{wrong, a}, true},
		{"it ahead of a wrong one", []api.Object{a, wrong}, true},
		{"it between others", []api.Object{b, {}, other, wrong, a, wrong, b}, true},
	}
}

// P11.2: which of far's objects counts, and what becomes of the others: nothing.
func TestWhatFarAnswersToGet(t *testing.T) {
	for _, c := range answers() {
		b := newBench(t, layout{memory: 1000, disk: 100})
		b.far.say(c.objs...)
		has := ""
		if c.counts {
			has = "a"
			wantGet(t, b.Tiers, "a")
		} else {
			wantNoGet(t, b.Tiers, idOf("a"), api.ErrMissing)
		}
		if t.Failed() {
			t.Fatal(c.name)
		}
		b.wantUsed(t, has)
		b.wantMemory(t, has)
		b.wantAsked(t, "?")
	}
}

// P11.2, P11.3: an object has at most 32768 bytes.
func TestGreatObjects(t *testing.T) {
	for _, size := range []int{32767, 32768, 32769, 100000} {
		o := of(strings.Repeat("g", size))
		b := newBench(t, layout{memory: ample, disk: ample})
		b.far.say(o)
		if size <= 32768 {
			wantObject(t, b.Tiers, o)
			wantIds(t, "Used", b.Used(), []string{o.Id})
			want(t, "near.Keep", b.near.Keep(), api.OK)
			want(t, "Fetch", b.Fetch(o.Id), api.OK)
			wantIds(t, "Used", b.Used(), []string{o.Id})
			continue
		}
		wantNoGet(t, b.Tiers, o.Id, api.ErrMissing)
		want(t, "Fetch", b.Fetch(o.Id), api.ErrMissing)
		b.wantUsed(t, "")
		b.wantMemory(t, "")
	}
}

// P11.2: what came is put into memory only if it is here then: if near took it, or somebody laid it meanwhile.
func TestFromAfarIntoMemory(t *testing.T) {
	b := newBench(t, layout{far: "aa bbb", memory: 1000, disk: 2})
	wantGet(t, b.Tiers, "bbb aa bbb")
	b.wantMemory(t, "aa")
	b.wantUsed(t, "aa")
	b.wantAsked(t, "bbb", "aa", "bbb")

	for _, s := range []string{"own", "near"} {
		b = newBench(t, layout{far: "bbb", memory: 1000, disk: 2})
		b.far.says = func([]string) ([]api.Object, api.Errno) {
			if s == "own" {
				b.own.Put(of("bbb"))
			} else {
				b.near.Put(of("bbb"))
			}
			return objects("bbb"), api.OK
		}
		wantGet(t, b.Tiers, "bbb")
		b.wantMemory(t, "bbb")
		wantGet(t, b.Tiers, "bbb")
		b.wantAsked(t, "bbb")
	}
}

// P11.2: a far that asks the same tiers meanwhile.
func TestFarThatAsksAgain(t *testing.T) {
	b := newBench(t, layout{own: "o", far: "aa bb", memory: 1000, disk: 3})
	b.far.says = func(ids []string) ([]api.Object, api.Errno) {
		b.far.says = nil
		wantGet(t, b.Tiers, "o bb aa")
		return objects("aa"), api.OK
	}
	wantGet(t, b.Tiers, "aa")
	b.wantUsed(t, "aa")
	b.wantAsked(t, "aa", "bb", "aa")
	b.wantMemory(t, "aa bb o")
}
