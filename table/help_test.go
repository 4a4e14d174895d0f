package table_test

import (
	"slices"
	"strings"
	"testing"

	"tussock/api"
	"tussock/disk"
	"tussock/table"
)

const ample = 1 << 24

func newDisk(t testing.TB, room int) *disk.Disk {
	t.Helper()
	d, e := disk.New(room)
	if d == nil || e != api.OK {
		t.Fatalf("disk.New(%d): %v, %d", room, d, e)
	}
	return d
}

func want(t testing.TB, call string, got, want api.Errno) {
	t.Helper()
	if got != want {
		t.Errorf("%s: %d; want %d", call, got, want)
	}
}

// put lays a pair, gone takes one away.
func put(key, val string) api.Put { return api.Put{Key: key, Val: val} }

func gone(key string) api.Put { return api.Put{Key: key, Gone: true} }

// puts are those of a text's words: "a=1" lays a pair, "-a" takes it away.
func puts(words string) []api.Put {
	var out []api.Put
	for _, w := range strings.Fields(words) {
		if key, is := strings.CutPrefix(w, "-"); is {
			out = append(out, gone(key))
			continue
		}
		key, val, _ := strings.Cut(w, "=")
		out = append(out, put(key, val))
	}
	return out
}

// list is what a table has, as a plain model keeps it: pairs by rising keys.
type list []api.Pair

// has is the list of a text's words.
func has(words string) list { return list(nil).with(puts(words)...) }

// with is the list behind puts: each is looked for from the beginning on.
func (x list) with(puts ...api.Put) list {
	out := slices.Clone(x)
	for _, p := range puts {
		at := 0
		for at < len(out) && out[at].Key < p.Key {
			at++
		}
		if at < len(out) && out[at].Key == p.Key {
			out = slices.Delete(out, at, at+1)
		}
		if !p.Gone {
			out = slices.Insert(out, at, api.Pair{Key: p.Key, Val: p.Val})
		}
	}
	return out
}

func (x list) is(y list) bool { return slices.Equal(x, y) }

func (x list) weight() int {
	n := 0
	for _, p := range x {
		n += 16 + len(p.Key) + len(p.Val)
	}
	return n
}

// short is a list as a test's failure tells it.
func (x list) short() string {
	var s strings.Builder
	for i, p := range x {
		if i == 20 {
			s.WriteString(" ..")
			break
		}
		s.WriteString(" " + p.Key[:min(len(p.Key), 20)] + "=" + p.Val[:min(len(p.Val), 20)])
	}
	return s.String()
}

// open asks for a table that must be there, or have nothing yet.
func open(t testing.TB, d *disk.Disk) *table.Table {
	t.Helper()
	return openName(t, d, "t")
}

func openName(t testing.TB, d *disk.Disk, name string) *table.Table {
	t.Helper()
	x, e := table.Open(d, name)
	if x == nil || e != api.OK {
		t.Fatalf("Open(%q): %v, %d", name, x, e)
	}
	return x
}

// tableOf is a table to which these were done, the words of each text at once, and its disk.
func tableOf(t testing.TB, commits ...string) (*disk.Disk, *table.Table) {
	t.Helper()
	d := newDisk(t, ample)
	x := open(t, d)
	for _, c := range commits {
		want(t, "Commit("+c+")", x.Commit(puts(c)...), api.OK)
	}
	return d, x
}

// now is the disk as it is, in a copy: with the power on, none that fails, and operations of its own.
func now(d *disk.Disk) *disk.Disk { return d.Crash(d.Loose(), 0) }

// told answers what a table says that it has, and holds all that it says against each other.
func told(t testing.TB, x *table.Table) list {
	t.Helper()
	all := list(x.All(""))
	for i, p := range all {
		if i > 0 && all[i-1].Key >= p.Key {
			t.Errorf("All: %s does not rise", all.short())
		}
		if val, is := x.Get(p.Key); !is || val != p.Val {
			t.Errorf("Get(%q): %q, %t; All says %q", p.Key, val, is, p.Val)
		}
	}
	if x.Len() != len(all) {
		t.Errorf("Len: %d; All has %d", x.Len(), len(all))
	}
	return all
}

func wantTold(t testing.TB, x *table.Table, has list) {
	t.Helper()
	if got := told(t, x); !got.is(has) {
		t.Errorf("has%s; want%s", got.short(), has.short())
	}
}

// read answers what a table has on a disk as it is, whose operations stay as they are.
func read(t testing.TB, d *disk.Disk) list {
	t.Helper()
	return told(t, open(t, now(d)))
}

func wantList(t testing.TB, d *disk.Disk, has list) {
	t.Helper()
	if got := read(t, d); !got.is(has) {
		t.Errorf("has on the disk%s; want%s", got.short(), has.short())
	}
}

// wantGood asks for what there is now, and behind each crash.
func wantGood(t testing.TB, d *disk.Disk, has list) {
	t.Helper()
	wantList(t, d, has)
	eachCrash(d, func(x *disk.Disk) { wantList(t, x, has) })
}

func wantOneOf(t testing.TB, d *disk.Disk, either []list) list {
	t.Helper()
	got := read(t, d)
	for _, x := range either {
		if got.is(x) {
			return x
		}
	}
	t.Fatalf("has%s; want one of %d others", got.short(), len(either))
	return nil
}

// eachCrash goes through what may be left behind a crash: each number of acts, and of the next one's bytes each number, if they are few, else some.
func eachCrash(d *disk.Disk, body func(x *disk.Disk)) { crashes(d, 100, body) }

// someCrashes goes through the same, but tears few numbers of bytes off.
func someCrashes(d *disk.Disk, body func(x *disk.Disk)) { crashes(d, 3, body) }

func crashes(d *disk.Disk, few int, body func(x *disk.Disk)) {
	for keep := range d.Loose() + 1 {
		whole := d.Crash(keep, 0)
		body(whole)
		more := bytesOf(d.Crash(keep, ample)) - bytesOf(whole) // of the next act
		for torn := 1; torn <= more; torn += 1 + more/few {
			body(d.Crash(keep, torn))
		}
		if more > 1 {
			body(d.Crash(keep, more-1))
			body(d.Crash(keep, more))
		}
	}
}

// filesOf are the names of a table's files.
func filesOf(d *disk.Disk, name string) []string {
	return slices.DeleteFunc(d.Names(), func(s string) bool { return s != name && !strings.HasPrefix(s, name+"~") })
}

// bytesOf is how many bytes all files have, bytesOfTable a table's.
func bytesOf(d *disk.Disk) int {
	n := 0
	for _, name := range d.Names() {
		n += d.Size(name)
	}
	return n
}

func bytesOfTable(d *disk.Disk, name string) int {
	n := 0
	for _, s := range filesOf(d, name) {
		n += d.Size(s)
	}
	return n
}

// snapshot is all that a disk has, and what it has when no loose act stays.
func snapshot(d *disk.Disk) string {
	var s strings.Builder
	for _, x := range []*disk.Disk{now(d), d.Crash(0, 0)} {
		for _, name := range x.Names() {
			b, _ := x.Read(name)
			s.WriteString(name + "=" + string(b) + "\n")
		}
		s.WriteString("--\n")
	}
	return s.String()
}

// great is so many bytes of puts that leave next to nothing: whatever lies there is laid anew for them, some day.
func great() []api.Put {
	var out []api.Put
	for range 5 {
		out = append(out, put("great", strings.Repeat("g", 4096)))
	}
	return append(out, gone("great"), put("x", "small"))
}

// call is a Commit's puts.
type call struct {
	name string
	puts []api.Put
}

func commit(words string) call { return call{"Commit(" + words + ")", puts(words)} }

func (c call) do(x *table.Table) api.Errno { return x.Commit(c.puts...) }

func (c call) list(has list) list { return has.with(c.puts...) }

// calls are of all kinds; the states' tables have a, b, c, or less.
func calls() []call {
	return []call{
		commit("x=yy"),
		commit("a=2 -b x= x=3 -c c=9"),
		commit("-a -b -c"),
		commit("a=1"),
		commit("-none"),
		{"Commit of great puts", great()},
	}
}

// state is a disk with a table that was opened on it.
type state struct {
	name string
	make func(t testing.TB) (*disk.Disk, *table.Table)
	has  list
}

func reopened(t testing.TB, d *disk.Disk) (*disk.Disk, *table.Table) {
	t.Helper()
	return d, open(t, d)
}

// cutAt is what a crash leaves with the power gone at the call's operation op, counted from 0 on.
func cutAt(t testing.TB, d *disk.Disk, x *table.Table, c call, op, keep, torn int) *disk.Disk {
	t.Helper()
	d.CutAt(d.Ops() + op)
	want(t, c.name+" with the power gone", c.do(x), api.ErrDiskOff)
	return d.Crash(keep, torn)
}

// opsOf is how many operations a call takes, as the same call on the same disk shows it.
func opsOf(t testing.TB, s state, c call) int {
	t.Helper()
	d, x := s.make(t)
	before := d.Ops()
	want(t, s.name+": "+c.name, c.do(x), api.OK)
	return d.Ops() - before
}

// states are the ones that a table may be in, between calls.
func states() []state {
	three := func(t testing.TB) (*disk.Disk, *table.Table) { return tableOf(t, "a=1 b=2", "c=", "b=3") }
	all := []state{
		{"new", func(t testing.TB) (*disk.Disk, *table.Table) { return tableOf(t) }, nil},
		{"of one Commit", func(t testing.TB) (*disk.Disk, *table.Table) { return tableOf(t, "a=1 b=2") }, has("a=1 b=2")},
		{"of three Commits", three, has("a=1 b=3 c=")},
		{"emptied", func(t testing.TB) (*disk.Disk, *table.Table) { return tableOf(t, "a=1 b=2", "-a -b") }, nil},
		{"laid anew", func(t testing.TB) (*disk.Disk, *table.Table) {
			d, x := three(t)
			want(t, "Commit of great puts", x.Commit(great()...), api.OK)
			return d, x
		}, has("a=1 b=3 c= x=small")},
		{"opened", func(t testing.TB) (*disk.Disk, *table.Table) {
			d, _ := three(t)
			return reopened(t, d)
		}, has("a=1 b=3 c=")},
		{"behind a crash", func(t testing.TB) (*disk.Disk, *table.Table) {
			d, _ := three(t)
			return reopened(t, d.Crash(0, 0))
		}, has("a=1 b=3 c=")},
		{"beside another one's loose acts", func(t testing.TB) (*disk.Disk, *table.Table) {
			d, _ := three(t)
			want(t, "Append", d.Append("other", []byte("xyz")), api.OK)
			return reopened(t, d)
		}, has("a=1 b=3 c=")},
	}
	return append(append(all, failed()...), cut()...)
}

// failed are states behind Commits that failed, with what would have tidied up failing, too.
func failed() []state {
	var all []state
	for _, c := range []struct {
		call
		ops []int
	}{
		{commit("lost=1"), []int{0}},
		{commit("lost=1"), []int{1}},
		{call{"great", great()}, []int{0}},
		{call{"great", great()}, []int{1}},
		{call{"great", great()}, []int{1, 2}},
		{call{"great", great()}, []int{2}},
		{call{"great", great()}, []int{2, 3}},
		{call{"great", great()}, []int{3}},
	} {
		all = append(all, state{"behind a Commit that failed", func(t testing.TB) (*disk.Disk, *table.Table) {
			d, x := tableOf(t, "a=1 b=2", "c=3")
			first := d.Ops()
			for _, op := range c.ops {
				d.FailAt(first + op)
			}
			want(t, c.name, c.do(x), api.ErrDiskIO)
			if last := first + c.ops[len(c.ops)-1]; d.Ops() <= last {
				t.Fatalf("operation %d is still to fail", last)
			}
			return d, x
		}, has("a=1 b=2 c=3")})
	}
	return all
}

// cut are states behind Commits that were cut off, and a crash.
func cut() []state {
	var all []state
	for _, torn := range []int{1, 10, 17, 23} {
		all = append(all, state{"behind a Commit torn off", func(t testing.TB) (*disk.Disk, *table.Table) {
			d, x := tableOf(t, "a=1 b=2", "c=3")
			return reopened(t, cutAt(t, d, x, commit("torn=off,off,off"), 1, 0, torn))
		}, has("a=1 b=2 c=3")})
	}
	for op := range 4 {
		for acts := range 2 {
			all = append(all, state{"behind a Commit cut off", func(t testing.TB) (*disk.Disk, *table.Table) {
				d, x := tableOf(t, "a=1 b=2", "c=3")
				return reopened(t, cutAt(t, d, x, call{"great", great()}, op, acts, 20))
			}, has("a=1 b=2 c=3")})
		}
	}
	return all
}
