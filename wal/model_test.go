package wal_test

import (
	"math/rand"
	"slices"
	"strings"
	"testing"

	"tussock/api"
	"tussock/disk"
	"tussock/wal"
)

// world is some logs on one disk, beside another file, and what a plain model says that they have: lists of groups.
type world struct {
	t      testing.TB
	script []byte
	d      *disk.Disk
	names  []string
	logs   []*wal.Log
	has    []list
	fails  []int
	room   int
	serial int
}

const ample = 1 << 20

func newWorld(t testing.TB, script []byte) *world {
	w := &world{t: t, script: script, d: newDisk(t, ample), names: []string{"l", "ll", "l!x"}, room: ample}
	w.has = make([]list, len(w.names))
	w.openAll()
	return w
}

func (w *world) openAll() {
	w.logs = nil
	for _, name := range w.names {
		w.logs = append(w.logs, open(w.t, w.d, name))
	}
}

// next is the script's next byte, below n.
func (w *world) next(n int) int {
	if len(w.script) == 0 {
		return 0
	}
	c := w.script[0]
	w.script = w.script[1:]
	return int(c) % n
}

// group makes one that was not there yet.
func (w *world) group() string {
	w.serial++
	g := strings.Repeat(string(rune('a'+w.serial%26)), w.next(5))
	for range w.next(4) {
		g += "," + strings.Repeat("x", w.next(70))
	}
	return g
}

func (w *world) step() {
	switch w.next(12) {
	case 0, 1, 2, 3:
		w.call(w.next(len(w.logs)), calls()[0])
	case 4:
		w.call(w.next(len(w.logs)), calls()[1])
	case 5:
		op := w.d.Ops() + w.next(6)
		w.d.FailAt(op)
		w.fails = append(w.fails, op)
	case 6:
		w.d.CutAt(w.d.Ops() + w.next(6))
	case 7:
		w.crash(-1, nil)
	case 8:
		w.reopen(w.next(len(w.logs)))
	case 9:
		w.others()
	case 10:
		w.room = []int{0, bytesOf(w.d), bytesOf(w.d) + 60, ample}[w.next(4)]
		w.d.SetRoom(w.room)
	case 11:
		k := w.next(len(w.logs))
		want(w.t, "a wrong group", calls()[w.next(2)].do(w.logs[k], make([]string, 8193)...), api.ErrWalForm)
	}
}

// call lays a group, and holds the answer against what the disk may have answered meanwhile.
func (w *world) call(k int, c call) {
	w.t.Helper()
	g := w.group()
	before, used, bytes := w.d.Ops(), bytesOf(w.d), w.logs[k].Bytes()
	e := c.do(w.logs[k], records(g)...)
	failed := slices.ContainsFunc(w.fails, func(op int) bool { return op >= before && op < w.d.Ops() })
	after := c.list(w.has[k], g)
	switch e {
	case api.OK:
		w.has[k] = after
	case api.ErrDiskIO:
		if !failed {
			w.t.Fatalf("%s: ErrDiskIO, and nothing failed", c.name)
		}
	case api.ErrDiskFull:
		if w.room >= used+bytes+130+10*len(records(g))+len(g) {
			w.t.Fatalf("%s: ErrDiskFull, with room for %d, and %d in use", c.name, w.room, used)
		}
	case api.ErrDiskOff:
		w.crash(k, after)
	default:
		w.t.Fatalf("%s: %d", c.name, e)
	}
	if n := w.d.Ops() - before; n > mostOps {
		w.t.Fatalf("%s takes %d operations", c.name, n)
	}
	w.check()
}

// crash goes on with what is left of the disk; the call that was under way on the log k, if there was one, may stand.
func (w *world) crash(k int, after list) {
	w.t.Helper()
	w.d = w.d.Crash(w.next(w.d.Loose()+2), w.next(100))
	w.fails = nil
	w.openAll()
	if k >= 0 && read(w.t, w.d, w.names[k]).is(after) {
		w.has[k] = after
	}
	w.check()
}

func (w *world) reopen(k int) {
	l, groups, e := wal.Open(w.d, w.names[k])
	switch {
	case e == api.OK && told(groups).is(w.has[k]):
		w.logs[k] = l
	case e == api.ErrDiskOff:
		w.crash(-1, nil)
	case e != api.ErrDiskIO || len(w.fails) == 0:
		w.t.Fatalf("Open: %q, %d; want %q", groups, e, w.has[k])
	}
}

// others is what somebody else does to the disk meanwhile.
func (w *world) others() {
	switch w.next(5) {
	case 0, 1:
		w.d.Append("other", []byte("some bytes"))
	case 2:
		w.d.Sync("other")
	case 3:
		w.d.SyncDir()
	case 4:
		w.d.Remove("other")
	}
	w.check()
}

// check asks for what each log has, now and if all that is loose were lost.
func (w *world) check() {
	w.t.Helper()
	for k, name := range w.names {
		for _, x := range []*disk.Disk{now(w.d), w.d.Crash(0, 0)} {
			if got := read(w.t, x, name); !got.is(w.has[k]) {
				w.t.Fatalf("%s has %q; want %q", name, got, w.has[k])
			}
		}
		checkBytes(w.t, w.logs[k], split(w.has[k]))
	}
}

func runScript(t testing.TB, script []byte) {
	w := newWorld(t, script)
	for len(w.script) > 0 {
		w.step()
	}
	w.check()
	w.d = w.d.Crash(w.d.Loose(), 0)
	w.d.SetRoom(ample)
	w.room, w.fails = ample, nil
	w.openAll()
	for k := range w.logs {
		w.call(k, calls()[0])
		w.call(k, calls()[1])
		w.call(k, calls()[0])
	}
}

// P5.1 to P5.4, P5.6: any scripts of calls, failures, cuts and crashes.
func TestAsTheModel(t *testing.T) {
	many := 1500
	if testing.Short() {
		many = 150
	}
	r := rand.New(rand.NewSource(5))
	for range many {
		script := make([]byte, r.Intn(200))
		r.Read(script)
		runScript(t, script)
		if t.Failed() {
			t.Fatalf("script %x", script)
		}
	}
}

func FuzzAsTheModel(f *testing.F) {
	r := rand.New(rand.NewSource(6))
	for range 20 {
		script := make([]byte, r.Intn(100))
		r.Read(script)
		f.Add(script)
	}
	f.Fuzz(func(t *testing.T, script []byte) {
		runScript(t, script[:min(len(script), 400)])
	})
}
