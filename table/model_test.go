package table_test

import (
	"math/rand"
	"slices"
	"strconv"
	"strings"
	"testing"

	"tussock/api"
	"tussock/disk"
	"tussock/table"
	"tussock/wal"
)

// one is a table of a world, and what a plain model says of it.
type one struct {
	name     string
	x        *table.Table
	has      list
	either   []list // what the disk may have: has; behind a power that came back also what was loose, or what was ahead of that
	greatest int    // weight that there was
	last     []api.Put
	calm     bool // the disk answered no error
}

// world is some tables on one disk, beside a log and another file.
type world struct {
	t      testing.TB
	script []byte
	d      *disk.Disk
	all    []*one
	log    *wal.Log
	groups int
	fails  []int
	room   int
}

func newWorld(t testing.TB, script []byte) *world {
	w := &world{t: t, script: script, d: newDisk(t, ample), room: ample}
	for _, name := range []string{"t", "t2", "u"} {
		w.all = append(w.all, &one{name: name, x: openName(t, w.d, name), either: []list{nil}, calm: true})
	}
	w.log, _, _ = wal.Open(w.d, "log")
	return w
}

// next is the script's next byte, below n.
func (w *world) next(n int) int {
	if len(w.script) == 0 {
		return 0
	}
	c := w.script[0]
	w.script = w.script[1:]
	return int(c) % n
}

// puts are some of few keys, so that they come again.
func (w *world) puts() []api.Put {
	var out []api.Put
	for range w.next(6) {
		key := strings.Repeat(string(rune('a'+w.next(4))), w.next(3))
		if w.next(3) == 0 {
			out = append(out, gone(key))
			continue
		}
		out = append(out, put(key, strings.Repeat("v", w.next(200)*w.next(20))))
	}
	return out
}

// greatPuts pass limits, or come near them.
func (w *world) greatPuts() []api.Put {
	n := []int{500, 1000, 1999, 2000, 2001}[w.next(5)]
	switch w.next(6) {
	case 0:
		return numbered(w.next(2000), n, "")
	case 1:
		return goneOf(numbered(w.next(2000), n, ""))
	case 2:
		return heavy(1048576 - 50 + w.next(100))
	case 3:
		return goneOf(heavy(1048576))
	case 4:
		return texts(1048576-5+w.next(10), w.next(2) == 0)
	}
	return great()
}

func (w *world) step() {
	o := w.all[w.next(len(w.all))]
	switch w.next(16) {
	case 0, 1, 2, 3, 4, 5:
		w.commit(o, w.puts())
	case 6:
		w.commit(o, great())
	case 7:
		if w.next(4) == 0 {
			w.commit(o, w.greatPuts())
		}
	case 8, 9:
		op := w.d.Ops() + w.next(6)
		w.d.FailAt(op)
		w.fails = append(w.fails, op)
	case 10:
		w.d.CutAt(w.d.Ops() + w.next(12))
	case 11:
		w.crash()
	case 12:
		w.reopen(o)
	case 13:
		w.others()
	case 14:
		w.room = []int{0, bytesOf(w.d), bytesOf(w.d) + 90, ample}[w.next(4)]
		w.d.SetRoom(w.room)
	case 15:
		want(w.t, "a wrong put", o.x.Commit(append(w.puts(), api.Put{Val: "x", Gone: true})...), api.ErrTableForm)
	}
}

// answer is what a Commit answers on a disk that answers no error.
func answer(has list, puts []api.Put) (list, api.Errno) {
	if len(puts) > 2000 {
		return has, api.ErrTableForm
	}
	n := 0
	for _, p := range puts {
		n += len(p.Key) + len(p.Val)
	}
	if n > 1048576 {
		return has, api.ErrTableForm
	}
	after := has.with(puts...)
	if len(after) > 2000 || after.weight() > 1048576 {
		return has, api.ErrTableFull
	}
	return after, api.OK
}

// commit makes one, and holds the answer against what the disk may have answered meanwhile.
func (w *world) commit(o *one, puts []api.Put) {
	w.t.Helper()
	from, used := w.d.Ops(), bytesOf(w.d)
	after, wanted := answer(o.has, puts)
	e := o.x.Commit(puts...)
	took := w.d.Ops() - from
	failed := slices.ContainsFunc(w.fails, func(op int) bool { return op >= from && op < w.d.Ops() })
	o.calm = o.calm && !failed && (e == api.OK || e == wanted)
	switch {
	case took > mostOps || len(puts) == 0 && took > 0:
		w.t.Fatalf("%d operations for %d puts", took, len(puts))
	case wanted != api.OK:
		if e != wanted || took > 0 {
			w.t.Fatalf("%d, %d operations; want %d", e, took, wanted)
		}
	case e == api.OK && len(puts) > 0:
		o.has, o.either, o.last = after, []list{after}, puts
		o.greatest = max(o.greatest, after.weight())
	case e == api.OK:
	case e == api.ErrDiskIO && failed:
	case e == api.ErrDiskFull && w.room < used+200+after.weight():
	case e == api.ErrDiskOff:
		w.powerGone(o, after)
	default:
		w.t.Fatalf("%d; failed: %t; room for %d, %d in use", e, failed, w.room, used)
	}
	if n := bytesOfTable(w.d, o.name); o.calm && n > mostBytes(o.greatest, o.last) {
		w.t.Fatalf("%d bytes, of pairs of at most %d", n, o.greatest)
	}
	w.check()
}

// powerGone goes on behind an ErrDiskOff: with a crash, or with the power back, and a table that is opened anew.
func (w *world) powerGone(o *one, after list) {
	w.t.Helper()
	o.calm = false
	o.either = append(o.either, after)
	if w.next(2) == 0 {
		w.crash()
		return
	}
	w.d.CutAt(-1)
	w.reopen(o)
}

// crash goes on with what is left of the disk.
func (w *world) crash() {
	w.t.Helper()
	w.d = w.d.Crash(w.next(w.d.Loose()+2), w.next(200))
	w.fails = nil
	for _, o := range w.all {
		o.x = openName(w.t, w.d, o.name)
		o.tells(w.t)
		o.either = []list{o.has}
	}
	var groups [][]string
	w.log, groups, _ = wal.Open(w.d, "log")
	if len(groups) != w.groups && len(groups) != w.groups+1 {
		w.t.Fatalf("the log has %d groups; want %d", len(groups), w.groups)
	}
	w.groups = len(groups)
	w.check()
}

// tells takes what a table says for what it has, if it may have that.
func (o *one) tells(t testing.TB) {
	t.Helper()
	got := told(t, o.x)
	if !slices.ContainsFunc(o.either, got.is) {
		t.Fatalf("%s has%s; want%s, or one of %d others", o.name, got.short(), o.has.short(), len(o.either)-1)
	}
	o.has = got
}

func (w *world) reopen(o *one) {
	w.t.Helper()
	x, e := table.Open(w.d, o.name)
	switch {
	case e == api.OK:
		o.x = x
		o.tells(w.t)
	case e == api.ErrDiskOff:
		w.crash()
	case e == api.ErrDiskIO && len(w.fails) > 0:
		o.calm = false
		w.crash() // the one that was there may not be to be used any more
	default:
		w.t.Fatalf("Open: %d", e)
	}
	w.check()
}

// others is what somebody else does to the disk meanwhile.
func (w *world) others() {
	switch w.next(6) {
	case 0, 1:
		w.d.Append("other", []byte("some bytes"))
	case 2:
		w.d.Sync("other")
	case 3:
		w.d.SyncDir()
	case 4:
		w.d.Remove("other")
	case 5:
		e := w.log.Append("record " + strconv.Itoa(w.groups))
		if e == api.OK {
			w.groups++
		} else if e == api.ErrDiskOff {
			w.crash()
		}
	}
	w.check()
}

// check asks for what each table has, now and if all that is loose were lost, and what it says.
func (w *world) check() {
	w.t.Helper()
	for _, o := range w.all {
		for _, d := range []*disk.Disk{now(w.d), w.d.Crash(0, 0)} {
			got := list(openName(w.t, d, o.name).All(""))
			if !slices.ContainsFunc(o.either, got.is) {
				w.t.Fatalf("%s has on the disk%s; want%s", o.name, got.short(), o.has.short())
			}
		}
		if got := list(o.x.All("")); !got.is(o.has) || o.x.Len() != len(o.has) {
			w.t.Fatalf("%s says%s; want%s", o.name, got.short(), o.has.short())
		}
	}
	w.ask()
}

// ask asks the tables for some keys and beginnings of keys.
func (w *world) ask() {
	for _, o := range w.all {
		for _, key := range []string{"", "a", "aa", "bb", "none", "k10500"} {
			val, is := o.x.Get(key)
			at := slices.IndexFunc(o.has, func(p api.Pair) bool { return p.Key == key })
			if is != (at >= 0) || is && o.has[at].Val != val || !is && val != "" {
				w.t.Fatalf("%s: Get(%q): %q, %t", o.name, key, val, is)
			}
			begin := slices.DeleteFunc(slices.Clone(o.has), func(p api.Pair) bool { return !strings.HasPrefix(p.Key, key) })
			if got := list(o.x.All(key)); !got.is(begin) {
				w.t.Fatalf("%s: All(%q): %s; want %s", o.name, key, got.short(), begin.short())
			}
		}
	}
}

func runScript(t testing.TB, script []byte) {
	w := newWorld(t, script)
	for len(w.script) > 0 {
		w.step()
	}
	w.check()
	w.d = w.d.Crash(w.d.Loose(), 0)
	w.d.SetRoom(ample)
	w.room = ample
	w.crash()
	for _, o := range w.all {
		w.commit(o, puts("a=1 -b"))
		w.commit(o, great())
		w.commit(o, puts("-a"))
	}
}

// P13.1 to P13.5, P13.7: any scripts of calls, failures, cuts and crashes.
func TestAsTheModel(t *testing.T) {
	many := 600
	if testing.Short() {
		many = 100
	}
	r := rand.New(rand.NewSource(13))
	for range many {
		script := make([]byte, r.Intn(400))
		r.Read(script)
		runScript(t, script)
		if t.Failed() {
			t.Fatalf("script %x", script)
		}
	}
}

// P13.7: the same puts, otherwise put into Commits, with crashes and great puts between: the same table.
func TestDrawnParts(t *testing.T) {
	r := rand.New(rand.NewSource(14))
	for range 100 {
		var all []api.Put
		for range 1 + r.Intn(200) {
			p := put(strings.Repeat(string(rune('a'+r.Intn(5))), r.Intn(4)), strings.Repeat("v", r.Intn(300)))
			if r.Intn(3) == 0 {
				p = gone(p.Key)
			}
			all = append(all, p)
		}
		_, whole := tableOf(t)
		want(t, "Commit", whole.Commit(all...), api.OK)
		wantTold(t, whole, list(nil).with(all...))
		d, x := tableOf(t)
		for rest := all; len(rest) > 0; {
			n := 1 + r.Intn(len(rest))
			want(t, "Commit", x.Commit(rest[:n]...), api.OK)
			rest = rest[n:]
			switch r.Intn(4) {
			case 0:
				d, x = reopened(t, d.Crash(0, 0))
			case 1:
				x = open(t, d)
			}
		}
		wantTold(t, x, told(t, whole))
		wantList(t, d.Crash(0, 0), told(t, whole))
	}
}

func FuzzAsTheModel(f *testing.F) {
	r := rand.New(rand.NewSource(15))
	for range 20 {
		script := make([]byte, r.Intn(100))
		r.Read(script)
		f.Add(script)
	}
	f.Fuzz(func(t *testing.T, script []byte) {
		runScript(t, script[:min(len(script), 400)])
	})
}
