package tiers_test

import (
	"maps"
	"math/rand"
	"slices"
	"strings"
	"testing"

	"tussock/api"
	"tussock/disk"
	"tussock/store"
	"tussock/tiers"
)

// world is tiers and a plain model of them, over stores and what the model says of these, with a far that both ask.
type world struct {
	*bench
	t      testing.TB
	script []byte
	model  plain
	answer []api.Object // what far answers beside what it is asked for
	fails  api.Errno    // what it answers instead
	mute   bool         // it has nothing
	asked  [2][][]string
	lost   map[string]int // used objects that others took away from near, and how often they were used till then: where they stand, laid again by others, is free
	over   bool           // others laid more into near than its budget
}

var budgets = []int{-1, 0, 1, 3, 8, 20, 33, 40, 90, 200, 1000}

func newWorld(t testing.TB, script []byte) *world {
	w := &world{t: t, script: script, bench: newBench(t, layout{}), lost: map[string]int{}}
	w.model.own, w.model.near = newShelf(), newShelf()
	w.anew()
	return w
}

func newShelf() *shelf { return &shelf{has: map[string]string{}, turned: map[string]bool{}} }

// anew joins the same stores anew.
func (w *world) anew() {
	memory, disk := budgets[w.next(len(budgets))], budgets[w.next(len(budgets))]
	var fars [2]tiers.Far
	if w.next(6) > 0 {
		fars = [2]tiers.Far{w.farOf(0), w.farOf(1)}
	}
	w.Tiers = newTiers(w.t, w.own, w.near, memory, disk, fars[0])
	w.model = plain{own: w.model.own, near: w.model.near, memory: max(memory, 0), disk: max(disk, 0), far: fars[1]}
	w.over = w.model.near.bytes() > w.model.disk
	clear(w.lost)
}

// farOf is the far that the tiers ask, or the model: both answer alike, and write down for what they were asked.
func (w *world) farOf(which int) tiers.Far {
	return func(ids ...string) ([]api.Object, api.Errno) {
		w.asked[which] = append(w.asked[which], slices.Clone(ids))
		if w.fails != api.OK {
			return w.answer, w.fails
		}
		out := slices.Clone(w.answer)
		for i := range 12 {
			if o := nth(i); slices.Contains(ids, o.Id) && !w.mute {
				out = append(out, o)
			}
		}
		return out, api.OK
	}
}

// nth is one of few objects, of which one has no bytes.
func nth(n int) api.Object { return of(strings.Repeat(string(rune('a'+n)), n*n/4)) }

// next is the script's next byte, below n.
func (w *world) next(n int) int {
	if len(w.script) == 0 {
		return 0
	}
	c := w.script[0]
	w.script = w.script[1:]
	return int(c) % n
}

func (w *world) object() api.Object { return nth(w.next(12)) }

// id is mostly an object's.
func (w *world) id() string {
	o := w.object()
	switch w.next(30) {
	case 0:
		return o.Id[:w.next(32)]
	case 1:
		return o.Id + "x"
	}
	return o.Id
}

func (w *world) ids() []string {
	var out []string
	for range w.next(6) {
		out = append(out, w.id())
	}
	return out
}

func (w *world) step() {
	w.t.Helper()
	switch n := w.next(24); {
	case n < 10:
		w.get()
	case n < 13:
		w.fetch()
	case n < 15:
		w.othersPut(w.own, w.model.own)
	case n < 17:
		w.othersPut(w.near, w.model.near)
	case n == 17:
		w.othersKeep()
	case n == 18:
		w.turn(w.nearDisk, "near", w.model.near)
	case n == 19:
		w.turn(w.ownDisk, "own", w.model.own)
	case n < 22:
		w.changeFar()
	case n == 22:
		w.model.near.full = w.next(3) == 0
		w.nearDisk.SetRoom(ample)
		if w.model.near.full {
			w.nearDisk.SetRoom(0)
		}
	case n == 23 && w.next(4) == 0:
		w.anew()
	}
	w.check()
}

func (w *world) get() {
	w.t.Helper()
	id := w.id()
	text, e := w.model.get(id)
	got, e2 := w.Get(id)
	if got != text || e2 != e {
		w.t.Fatalf("Get(%x): %q, %d; want %q, %d", id, head(got), e2, head(text), e)
	}
}

func (w *world) fetch() {
	w.t.Helper()
	ids := w.ids()
	e := w.model.fetch(ids...)
	if got := w.Fetch(ids...); got != e {
		w.t.Fatalf("Fetch(%x): %d; want %d", ids, got, e)
	}
}

func (w *world) timesUsed(id string) int {
	n := 0
	for _, x := range w.model.uses {
		if x == id {
			n++
		}
	}
	return n
}

// isFree tells whether an object was not used since others took it away.
func (w *world) isFree(id string) bool {
	times, was := w.lost[id]
	return was && times == w.timesUsed(id)
}

// othersPut lays an object beside the tiers, but none whose place would be free.
func (w *world) othersPut(s *store.Store, m *shelf) {
	w.t.Helper()
	o := w.object()
	if m.full || m == w.model.near && w.isFree(o.Id) {
		return
	}
	want(w.t, "others' Put", s.Put(o), api.OK)
	m.has[o.Id] = o.Bytes
	w.over = w.over || w.model.near.bytes() > w.model.disk
}

// othersKeep takes some away beside the tiers, from one of the stores.
func (w *world) othersKeep() {
	w.t.Helper()
	var s *store.Store = w.own
	m := w.model.own
	if w.next(3) > 0 {
		s, m = w.near, w.model.near
	}
	stay := slices.DeleteFunc(slices.Sorted(maps.Keys(m.has)), func(string) bool { return w.next(3) == 0 })
	if m.full || slices.ContainsFunc(stay, func(id string) bool { return m.turned[id] }) {
		return
	}
	for _, id := range w.model.uses {
		if m == w.model.near && m.holds(id) && !slices.Contains(stay, id) {
			w.lost[id] = w.timesUsed(id)
		}
	}
	want(w.t, "others' Keep", s.Keep(stay...), api.OK)
	m.keep(stay)
}

// turn turns an object's byte, or turns it back. In each store there is at most one that is turned, as nobody could weigh a second one.
func (w *world) turn(d *disk.Disk, area string, m *shelf) {
	w.t.Helper()
	ids := slices.Sorted(maps.Keys(m.turned))
	if len(ids) == 0 {
		ids = slices.DeleteFunc(slices.Sorted(maps.Keys(m.has)), func(id string) bool { return m.has[id] == "" })
	}
	if len(ids) == 0 {
		return
	}
	id := ids[w.next(len(ids))]
	turn(w.t, d, area, m.has[id])
	if m.turned[id] {
		delete(m.turned, id)
	} else {
		m.turned[id] = true
	}
}

// changeFar lets far answer otherwise from now on.
func (w *world) changeFar() {
	w.answer, w.fails, w.mute = nil, api.OK, w.next(4) == 0
	switch w.next(4) {
	case 0:
		w.fails = farErrors[w.next(len(farErrors))]
	case 1:
		for range w.next(8) {
			o := w.object()
			switch w.next(4) {
			case 0:
				o.Id = w.id()
			case 1:
				o.Bytes += "?"
			case 2:
				o.Bytes = strings.Repeat("g", 32769)
				o.Id = idOf(o.Bytes)
			}
			w.answer = append(w.answer, o)
		}
	}
}

// check holds all that there is against the model.
func (w *world) check() {
	w.t.Helper()
	m := &w.model
	wantIds(w.t, "Used", w.Used(), m.used())
	wantIds(w.t, "Memory", w.Memory(), m.keys())
	wantIds(w.t, "own", w.own.Ids(), slices.Sorted(maps.Keys(m.own.has)))
	wantIds(w.t, "near", w.near.Ids(), slices.Sorted(maps.Keys(m.near.has)))
	if !slices.EqualFunc(w.asked[0], w.asked[1], slices.Equal) {
		w.t.Errorf("far was asked for %x; want %x", w.asked[0], w.asked[1])
	}
	w.asked = [2][][]string{}
	within := w.near.Bytes() <= m.disk
	if !within && !w.over {
		w.t.Errorf("near has %d bytes, of a budget of %d", w.near.Bytes(), m.disk)
	}
	w.over = !within
	if w.t.Failed() {
		w.t.FailNow()
	}
}

// end lets the power go: what there is is asked for once more.
func (w *world) end() {
	w.t.Helper()
	if w.next(2) == 0 {
		w.nearDisk.CutAt(w.nearDisk.Ops())
		w.model.near.off = true
	} else {
		w.ownDisk.CutAt(w.ownDisk.Ops())
		w.model.own.off = true
	}
	for range 6 {
		w.get()
		w.fetch()
		w.check()
	}
}

func runWorld(t testing.TB, script []byte) {
	t.Helper()
	defer func() {
		if t.Failed() {
			t.Logf("the script %x", script)
		}
	}()
	w := newWorld(t, script)
	for len(w.script) > 40 {
		w.step()
	}
	w.end()
}

// P11.1 to P11.5: drawn calls, of the tiers' and of others', against the plain model.
func TestDrawnCalls(t *testing.T) {
	for seed := range int64(1000) {
		script := make([]byte, 400)
		rand.New(rand.NewSource(seed)).Read(script)
		runWorld(t, script)
	}
}

// P11.1 to P11.5: calls of a script, against the plain model.
func FuzzAsTheModel(f *testing.F) {
	for seed := range int64(5) {
		script := make([]byte, 300)
		rand.New(rand.NewSource(seed)).Read(script)
		f.Add(script)
	}
	f.Fuzz(func(t *testing.T, script []byte) {
		if len(script) <= 3000 {
			runWorld(t, script)
		}
	})
}
