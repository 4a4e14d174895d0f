package tiers_test

import (
	"slices"
	"strings"
	"testing"

	"tussock/api"
)

// deed is a call on tiers whose near may have trouble with its disk, and what near may have behind it: what it had, what is left when others went, and what it has when all is done.
type deed struct {
	name   string
	layout layout
	ahead  func(t testing.TB, b *bench)
	do     func(t testing.TB, b *bench) api.Errno
	may    []string
	needs  bool // it needs near: its errors are answered
}

// getting is a Get of a word, of which the bytes must be right, whatever else happens.
func getting(word string) func(t testing.TB, b *bench) api.Errno {
	return func(t testing.TB, b *bench) api.Errno {
		t.Helper()
		got, e := b.Get(idOf(word))
		if e == api.OK && got != word || e != api.OK && got != "" {
			t.Errorf("Get(%q's id): %q, %d", word, got, e)
		}
		return e
	}
}

func nothing(testing.TB, *bench) {}

func deeds() []deed {
	order := rising("aa bb cc")
	return []deed{
		{"Get of near's", layout{near: "aa bb", disk: 6}, nothing, getting("aa"), []string{"aa bb"}, true},
		{"Get of what comes", layout{near: "aa", far: "bb", memory: 1000, disk: 6}, nothing, getting("bb"), []string{"aa", "aa bb"}, false},
		{"Get of what comes to nothing", layout{far: "bb", memory: 1000, disk: 6}, nothing, getting("bb"), []string{"", "bb"}, false},
		{"Get of what comes, one goes", layout{near: "aa bb cc", far: "dd", memory: 1000, disk: 6}, nothing, getting("dd"),
			[]string{"aa bb cc", order[1] + " " + order[2], order[1] + " " + order[2] + " dd"}, false},
		{"Get of what comes, one goes, all were used", layout{near: "aa bb cc", far: "dd", disk: 6},
			func(t testing.TB, b *bench) { wantGet(t, b.Tiers, "cc aa bb") }, getting("dd"),
			[]string{"aa bb cc", "aa bb", "aa bb dd"}, false},
		{"Get of what comes, two go", layout{near: "aa bb cc", far: "ddd", memory: 1000, disk: 6}, nothing, getting("ddd"),
			[]string{"aa bb cc", order[2], order[2] + " ddd"}, false},
		{"Get of what comes, all go", layout{near: "aa bb cc", far: "dddddd", memory: 1000, disk: 6}, nothing, getting("dddddd"),
			[]string{"aa bb cc", "", "dddddd"}, false},
		{"Get of what is too heavy", layout{near: "aa bb cc", far: "ddddddd", memory: 1000, disk: 6}, nothing, getting("ddddddd"),
			[]string{"aa bb cc"}, false},
		{"Get of what turned", layout{near: "aa bb", far: "aa", memory: 1000, disk: 6},
			func(t testing.TB, b *bench) { b.turnNear(t, "aa") }, getting("aa"),
			[]string{"aa bb", "bb"}, true},
		{"Get of what memory has", layout{near: "aa bb", memory: 1000, disk: 6},
			func(t testing.TB, b *bench) { wantGet(t, b.Tiers, "bb aa") }, getting("aa"), []string{"aa bb"}, false},
		{"Get of what own has", layout{own: "aa", near: "aa bb", memory: 1000, disk: 6}, nothing, getting("aa"), []string{"aa bb"}, false},
		{"Fetch of two", layout{near: "aa", far: "bb cc", memory: 1000, disk: 6}, nothing,
			func(t testing.TB, b *bench) api.Errno { return b.Fetch(ids("cc bb")...) },
			[]string{"aa", "aa cc", "aa cc bb", "aa bb"}, false},
		{"Fetch of three, others go", layout{near: "aa bb", far: "cc dd eee", memory: 1000, disk: 4},
			func(t testing.TB, b *bench) { wantGet(t, b.Tiers, "aa bb") },
			func(t testing.TB, b *bench) api.Errno { return b.Fetch(ids("cc dd eee")...) },
			nil, false},
	}
}

// wantLeft: near has one of what it may have, for good, and no more than its budget.
func (d deed) wantLeft(t testing.TB, b *bench) {
	t.Helper()
	got := b.near.Ids()
	if b.near.Bytes() > d.layout.disk {
		t.Errorf("%s: near has %d bytes, of a budget of %d", d.name, b.near.Bytes(), d.layout.disk)
	}
	if !slices.Equal(openStore(t, b.nearDisk.Crash(0, 0), "near").Ids(), got) {
		t.Errorf("%s: what near has is not sure", d.name)
	}
	d.wantOneOf(t, got)
}

func (d deed) wantOneOf(t testing.TB, got []string) {
	t.Helper()
	for _, words := range d.may {
		has := ids(words)
		slices.Sort(has)
		if slices.Equal(got, has) {
			return
		}
	}
	if d.may != nil {
		t.Errorf("%s: near has %x", d.name, got)
	}
}

// wantGoesOn: with the disk as it should be all that was here, or afar, can be had.
func (d deed) wantGoesOn(t testing.TB, b *bench) {
	t.Helper()
	words := d.layout.own + " " + d.layout.near + " " + d.layout.far
	b.far.has = append(b.far.has, objects(words)...)
	for range 2 {
		wantGet(t, b.Tiers, words)
		b.wantFetch(t, words, api.OK)
	}
	if b.near.Bytes() > d.layout.disk {
		t.Errorf("%s: near has %d bytes, of a budget of %d", d.name, b.near.Bytes(), d.layout.disk)
	}
}

// opsOf is how many operations of near's disk a deed takes.
func (d deed) opsOf(t testing.TB) int {
	t.Helper()
	b := newBench(t, d.layout)
	d.ahead(t, b)
	before := b.nearDisk.Ops()
	want(t, d.name, d.do(t, b), api.OK)
	return b.nearDisk.Ops() - before
}

// P11.2, P11.3, P11.5: each of near's operations failing, one after another, alone and with those behind it: what comes from afar is answered all the same, and nothing is half done.
func TestEachOperationOfNearFails(t *testing.T) {
	for _, d := range deeds() {
		ops := d.opsOf(t)
		for at := range ops {
			for many := range 5 {
				b := newBench(t, d.layout)
				d.ahead(t, b)
				for i := range many + 1 {
					b.nearDisk.FailAt(b.nearDisk.Ops() + at + i)
				}
				if e := d.do(t, b); e != api.OK && (e != api.ErrDiskIO || !d.needs) {
					t.Errorf("%s, failing at %d: %d", d.name, at, e)
				}
				d.wantLeft(t, b)
				for range 10 { // the failures that are still to come
					b.nearDisk.Read("nobody's")
				}
				d.wantGoesOn(t, b)
			}
		}
	}
}

// P11.2, P11.3, P11.5: near's disk has no room, or for few bytes alone: likewise.
func TestNearWithoutRoom(t *testing.T) {
	for _, d := range deeds() {
		for room := 0; room < 1000; room += 7 {
			b := newBench(t, d.layout)
			d.ahead(t, b)
			b.nearDisk.SetRoom(room)
			if e := d.do(t, b); e != api.OK && (e != api.ErrDiskFull || !d.needs) {
				t.Errorf("%s, with room for %d: %d", d.name, room, e)
			}
			d.wantLeft(t, b)
			b.nearDisk.SetRoom(ample)
			d.wantGoesOn(t, b)
		}
	}
}

// P11.2, P11.3: the power of near's disk goes at each operation: what comes from afar is answered, what near alone has is not; behind a crash near has what it had, or what it was to have, or is between the two steps of which that is made.
func TestPowerOfNearGoes(t *testing.T) {
	for _, d := range deeds() {
		for at := range d.opsOf(t) {
			b := newBench(t, d.layout)
			d.ahead(t, b)
			b.nearDisk.CutAt(b.nearDisk.Ops() + at)
			if e := d.do(t, b); e != api.OK && (e != api.ErrDiskOff || !d.needs) {
				t.Errorf("%s, cut at %d: %d", d.name, at, e)
			}
			for acts := range b.nearDisk.Loose() + 1 {
				b.near = openStore(t, b.nearDisk.Crash(acts, 10), "near")
				d.wantOneOf(t, b.near.Ids())
				b.join(t, d.layout.memory, d.layout.disk)
				d.wantGoesOn(t, b)
			}
		}
	}
}

// P11.2: the power of near's disk is gone: memory and own answer, and far; near's error is answered, where near alone has it.
func TestPowerOfNearGone(t *testing.T) {
	b := newBench(t, layout{own: "o", near: "n m", far: "f n m", memory: 1000, disk: 6})
	wantGet(t, b.Tiers, "m")
	b.nearDisk.CutAt(b.nearDisk.Ops())
	for range 2 {
		wantGet(t, b.Tiers, "o m f")
		wantNoGet(t, b.Tiers, idOf("n"), api.ErrDiskOff)
		b.wantFetch(t, "n m o f", api.OK)
		b.wantAsked(t, "f", "f")
		b.wantMemory(t, "m o") // f is not here
		wantIds(t, "Used", b.Used(), ids("n m"))
	}
}

// P11.2: own's operations failing, its power gone: its error is answered, near and far are not asked instead.
func TestOwnFails(t *testing.T) {
	for _, near := range []string{"", "o"} {
		b := newBench(t, layout{own: "o p", near: near, far: "o", memory: 1000, disk: 6})
		wantGet(t, b.Tiers, "p")
		b.ownDisk.FailAt(b.ownDisk.Ops())
		wantNoGet(t, b.Tiers, idOf("o"), api.ErrDiskIO)
		b.wantMemory(t, "p")
		b.ownDisk.CutAt(b.ownDisk.Ops())
		for range 2 {
			wantNoGet(t, b.Tiers, idOf("o"), api.ErrDiskOff)
			wantGet(t, b.Tiers, "p")
		}
		b.wantMemory(t, "p")
		b.ownDisk.CutAt(-1)
		wantGet(t, b.Tiers, "o p")
		b.wantAsked(t)
		b.wantUsed(t, near)
	}
}

// P11.2: own without room goes on being read; nothing is ever laid there.
func TestOwnWithoutRoom(t *testing.T) {
	b := newBench(t, layout{own: "o", far: "f", memory: 0, disk: 6})
	b.ownDisk.SetRoom(0)
	wantGet(t, b.Tiers, "o f o f")
	b.wantFetch(t, "o f", api.OK)
	b.wantAsked(t, "f")
	wantStore(t, b.ownDisk, "own", "o")
}

// P11.5: both stores on one disk: each of its operations failing, at a Get that reads own, at one that reads near, at one for which others go.
func TestOneDiskForBoth(t *testing.T) {
	for at := range 40 {
		d := newDisk(t)
		own, near := openStore(t, d, "own"), openStore(t, d, "near")
		want(t, "own.Put", own.Put(objects("o p")...), api.OK)
		want(t, "near.Put", near.Put(objects("aa bb")...), api.OK)
		far := &afar{has: objects("aa bb cc dd")}
		x := newTiers(t, own, near, 70, 4, far.answer)
		d.FailAt(d.Ops() + at)
		failed := 0
		for _, w := range strings.Fields("o aa cc p bb dd o aa cc") {
			switch got, e := x.Get(idOf(w)); {
			case e == api.ErrDiskIO && got == "":
				failed++
			case e != api.OK || got != w:
				t.Errorf("Get(%q's id): %q, %d", w, got, e)
			}
			if near.Bytes() > 4 {
				t.Errorf("near has %d bytes", near.Bytes())
			}
		}
		if failed > 1 {
			t.Errorf("failing at %d: %d Gets failed", at, failed)
		}
		wantStore(t, d, "own", "o p")
	}
}

// P11.5: near's objects are gone from its disk, by somebody who ought not to: far has them.
func TestNearsFilesAreGone(t *testing.T) {
	b := newBench(t, layout{near: "aa", far: "aa", memory: 0, disk: 4})
	for _, name := range b.nearDisk.Names() {
		want(t, "Remove", b.nearDisk.Remove(name), api.OK)
	}
	wantGet(t, b.Tiers, "aa aa")
	b.wantAsked(t, "aa")
	b.wantUsed(t, "aa")
}
