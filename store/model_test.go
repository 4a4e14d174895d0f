package store_test

import (
	"math/rand"
	"slices"
	"strings"
	"testing"

	"tussock/api"
	"tussock/disk"
	"tussock/store"
)

// world is some stores on one disk, beside another file, and what a plain model says that they have: lists of texts.
type world struct {
	t      testing.TB
	script []byte
	d      *disk.Disk
	areas  []string
	stores []*store.Store
	has    []list
	calls  []int  // how many each store was given
	calm   []bool // the disk answered its calls no error
	fails  []int
	room   int
}

func newWorld(t testing.TB, script []byte) *world {
	w := &world{t: t, script: script, d: newDisk(t, ample), areas: []string{"own", "own2", "o"}, room: ample}
	w.has, w.calls, w.calm = make([]list, len(w.areas)), make([]int, len(w.areas)), []bool{true, true, true}
	w.openAll()
	return w
}

func (w *world) openAll() {
	w.stores = nil
	for _, area := range w.areas {
		w.stores = append(w.stores, openArea(w.t, w.d, area))
	}
}

// next is the script's next byte, below n.
func (w *world) next(n int) int {
	if len(w.script) == 0 {
		return 0
	}
	c := w.script[0]
	w.script = w.script[1:]
	return int(c) % n
}

// words are some of few, so that they come again.
func (w *world) words(most int) string {
	var out []string
	for range w.next(most) {
		n := w.next(12)
		out = append(out, strings.Repeat(string(rune('a'+n)), 1+n*n))
	}
	return strings.Join(out, " ")
}

func (w *world) step() {
	k := w.next(len(w.stores))
	switch w.next(14) {
	case 0, 1, 2, 3:
		w.call(k, put(w.words(5)))
	case 4:
		w.call(k, keep(w.words(12)))
	case 5:
		w.call(k, keep(strings.Join(w.has[k], " ")+" "+w.words(3)))
	case 6:
		w.call(k, pack())
	case 7:
		op := w.d.Ops() + w.next(8)
		w.d.FailAt(op)
		w.fails = append(w.fails, op)
	case 8:
		w.d.CutAt(w.d.Ops() + w.next(12))
	case 9:
		w.crash(-1, nil)
	case 10:
		w.reopen(k)
	case 11:
		w.others()
	case 12:
		w.room = []int{0, bytesOf(w.d, ""), bytesOf(w.d, "") + 90, ample}[w.next(4)]
		w.d.SetRoom(w.room)
	case 13:
		bad := wrong()
		want(w.t, "a wrong object", w.stores[k].Put(of("never"), bad[w.next(len(bad))]), api.ErrStoreForm)
	}
}

// call makes one, and holds the answer against what the disk may have answered meanwhile.
func (w *world) call(k int, c call) {
	w.t.Helper()
	w.calls[k]++
	from, used, files := w.d.Ops(), bytesOf(w.d, ""), len(filesOf(w.d, w.areas[k]))
	before, after := w.has[k], c.list(w.has[k])
	e := c.do(w.stores[k])
	took := w.d.Ops() - from
	failed := slices.ContainsFunc(w.fails, func(op int) bool { return op >= from && op < w.d.Ops() })
	w.calm[k] = w.calm[k] && !failed && e == api.OK
	switch e {
	case api.OK:
		w.has[k] = after
	case api.ErrDiskIO:
		if !failed {
			w.t.Fatalf("%s: ErrDiskIO, and nothing failed", c.name)
		}
	case api.ErrDiskFull:
		if w.room >= used+100+60*len(after)+after.bytes() {
			w.t.Fatalf("%s: ErrDiskFull, with room for %d, and %d in use", c.name, w.room, used)
		}
	case api.ErrDiskOff:
		w.crash(k, after)
	default:
		w.t.Fatalf("%s: %d", c.name, e)
	}
	if !isKeep(c) && before.is(after) && took != 0 {
		w.t.Fatalf("%s of what is there takes %d operations", c.name, took)
	}
	if w.calm[k] {
		w.bounds(k, c, took, files, before)
	}
	w.check()
}

// bounds asks for what holds as long as there were no errors.
func (w *world) bounds(k int, c call, took, files int, before list) {
	w.t.Helper()
	if most := mostOps(files, len(before), isKeep(c)); took > most {
		w.t.Fatalf("%s takes %d operations; at most %d", c.name, took, most)
	}
	if went := len(w.has[k]) < len(before); (went || c.name == "Pack()") && len(filesOf(w.d, w.areas[k])) > 1 {
		w.t.Fatalf("the files %q behind %s", filesOf(w.d, w.areas[k]), c.name)
	}
	checkBytes(w.t, w.d, w.areas[k], w.has[k], w.calls[k])
}

// crash goes on with what is left of the disk; what the store k was to have behind the call that was under way, if there was one, it may have.
func (w *world) crash(k int, after list) {
	w.t.Helper()
	w.d = w.d.Crash(w.next(w.d.Loose()+2), w.next(200))
	w.fails = nil
	w.openAll()
	if k >= 0 {
		w.calm[k] = false
		if readArea(w.t, w.d, w.areas[k]).is(after) {
			w.has[k] = after
		}
	}
	w.check()
}

func (w *world) reopen(k int) {
	s, e := store.Open(w.d, w.areas[k])
	switch {
	case e == api.OK:
		w.stores[k] = s
		w.check()
	case e == api.ErrDiskOff:
		w.crash(-1, nil)
	case e == api.ErrDiskIO && len(w.fails) > 0:
		w.calm[k] = false
	default:
		w.t.Fatalf("Open: %d", e)
	}
}

// others is what somebody else does to the disk meanwhile.
func (w *world) others() {
	switch w.next(5) {
	case 0, 1:
		w.d.Append("own", []byte("some bytes"))
	case 2:
		w.d.Sync("own")
	case 3:
		w.d.SyncDir()
	case 4:
		w.d.Remove("own")
	}
	w.check()
}

// check asks for what each area has, now and if all that is loose were lost, and what its store says.
func (w *world) check() {
	w.t.Helper()
	for k, area := range w.areas {
		for _, x := range []*disk.Disk{now(w.d), w.d.Crash(0, 0)} {
			if got := readArea(w.t, x, area); !got.is(w.has[k]) {
				w.t.Fatalf("%s has %q; want %q", area, got, w.has[k])
			}
		}
		if got, want := w.stores[k].Ids(), list(idsOf(w.has[k])).with(); !slices.Equal(got, want) {
			w.t.Fatalf("%s: Ids: %x; want %x", area, got, want)
		}
		if got := w.stores[k].Bytes(); got != w.has[k].bytes() {
			w.t.Fatalf("%s: Bytes: %d; want %d", area, got, w.has[k].bytes())
		}
	}
}

func runScript(t testing.TB, script []byte) {
	w := newWorld(t, script)
	for len(w.script) > 0 {
		w.step()
	}
	w.check()
	w.d = w.d.Crash(w.d.Loose(), 0)
	w.d.SetRoom(ample)
	w.room, w.fails = ample, nil
	w.openAll()
	for k := range w.stores {
		w.call(k, put("x yy"))
		w.call(k, keep("x a"))
		w.call(k, put("zzz"))
		w.call(k, pack())
	}
}

// P9.1 to P9.5, P9.7: any scripts of calls, failures, cuts and crashes.
func TestAsTheModel(t *testing.T) {
	many := 600
	if testing.Short() {
		many = 100
	}
	r := rand.New(rand.NewSource(9))
	for range many {
		script := make([]byte, r.Intn(250))
		r.Read(script)
		runScript(t, script)
		if t.Failed() {
			t.Fatalf("script %x", script)
		}
	}
}

// P9.7: the same objects, in another order and otherwise grouped, with what is taken away between: the same store.
func TestDrawnGroupings(t *testing.T) {
	r := rand.New(rand.NewSource(10))
	for range 100 {
		var all []api.Object
		for range r.Intn(30) {
			all = append(all, of(strings.Repeat(string(rune('a'+r.Intn(26))), r.Intn(40))))
		}
		first, _ := storeOf(t)
		want(t, "Put", open(t, first).Put(all...), api.OK)
		d, s := storeOf(t)
		r.Shuffle(len(all), func(i, j int) { all[i], all[j] = all[j], all[i] })
		for rest := all; len(rest) > 0; {
			n := 1 + r.Intn(len(rest))
			want(t, "Put", s.Put(rest[:n]...), api.OK)
			rest = rest[n-r.Intn(2):] // some of them come twice
			if r.Intn(3) == 0 {
				want(t, "Pack", s.Pack(), api.OK)
			}
			if len(rest) == 1 {
				break
			}
		}
		want(t, "Put", s.Put(all...), api.OK)
		wantTold(t, s, readArea(t, first, "own"))
		wantList(t, d.Crash(0, 0), readArea(t, first, "own"))
	}
}

func FuzzAsTheModel(f *testing.F) {
	r := rand.New(rand.NewSource(11))
	for range 20 {
		script := make([]byte, r.Intn(100))
		r.Read(script)
		f.Add(script)
	}
	f.Fuzz(func(t *testing.T, script []byte) {
		runScript(t, script[:min(len(script), 400)])
	})
}
