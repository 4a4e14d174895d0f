package store_test

import (
	"slices"
	"strings"
	"testing"

	"tussock/api"
	"tussock/disk"
	"tussock/hash"
	"tussock/store"
)

const ample = 1 << 20

func newDisk(t testing.TB, room int) *disk.Disk {
	t.Helper()
	d, e := disk.New(room)
	if d == nil || e != api.OK {
		t.Fatalf("disk.New(%d): %v, %d", room, d, e)
	}
	return d
}

func want(t testing.TB, call string, got, want api.Errno) {
	t.Helper()
	if got != want {
		t.Errorf("%s: %d; want %d", call, got, want)
	}
}

// of is the right object of a text.
func of(text string) api.Object { return api.Object{Id: hash.Sum(text), Bytes: text} }

// objects are those of the words of a text, ids theirs.
func objects(words string) []api.Object {
	var out []api.Object
	for _, w := range strings.Fields(words) {
		out = append(out, of(w))
	}
	return out
}

func ids(words string) []string {
	var out []string
	for _, o := range objects(words) {
		out = append(out, o.Id)
	}
	return out
}

// list is what a store has: the texts of its objects, rising, each once.
type list []string

func words(s string) list { return list(nil).plus(s) }

func (x list) plus(more string) list { return x.with(strings.Fields(more)...) }

func (x list) with(more ...string) list {
	out := append(slices.Clone(x), more...)
	slices.Sort(out)
	return slices.Compact(out)
}

func (x list) only(some string) list {
	return slices.DeleteFunc(slices.Clone(x), func(s string) bool { return !slices.Contains(strings.Fields(some), s) })
}

func (x list) is(y list) bool { return slices.Equal(x, y) }

func (x list) bytes() int { return len(strings.Join(x, "")) }

// open asks for a store that must be there, or have nothing yet.
func open(t testing.TB, d *disk.Disk) *store.Store {
	t.Helper()
	return openArea(t, d, "own")
}

func openArea(t testing.TB, d *disk.Disk, area string) *store.Store {
	t.Helper()
	s, e := store.Open(d, area)
	if s == nil || e != api.OK {
		t.Fatalf("Open(%q): %v, %d", area, s, e)
	}
	return s
}

// storeOf is a store into which these were put, the words of each text at once, and its disk.
func storeOf(t testing.TB, puts ...string) (*disk.Disk, *store.Store) {
	t.Helper()
	d := newDisk(t, ample)
	s := open(t, d)
	for _, p := range puts {
		want(t, "Put", s.Put(objects(p)...), api.OK)
	}
	return d, s
}

// now is the disk as it is, in a copy: with the power on, none that fails, and operations of its own.
func now(d *disk.Disk) *disk.Disk { return d.Crash(d.Loose(), 0) }

// told answers what a store says that it has, and holds all that it says against each other.
func told(t testing.TB, s *store.Store) list {
	t.Helper()
	var texts list
	all, bytes := s.Ids(), 0
	for i, id := range all {
		if i > 0 && all[i-1] >= id {
			t.Errorf("Ids: %x does not rise", all)
		}
		text, e := s.Get(id)
		if e != api.OK || hash.Sum(text) != id || !s.Has(id) {
			t.Errorf("Get(%x): %q, %d; Has: %t", id, text, e, s.Has(id))
		}
		texts = append(texts, text)
		bytes += len(text)
	}
	if got := s.Bytes(); got != bytes {
		t.Errorf("Bytes: %d; want %d", got, bytes)
	}
	return texts.with()
}

func wantTold(t testing.TB, s *store.Store, has list) {
	t.Helper()
	if got := told(t, s); !got.is(has) {
		t.Errorf("has %q; want %q", got, has)
	}
}

// readArea answers what an area has on a disk as it is, whose operations stay as they are.
func readArea(t testing.TB, d *disk.Disk, area string) list {
	t.Helper()
	return told(t, openArea(t, now(d), area))
}

func wantList(t testing.TB, d *disk.Disk, has list) {
	t.Helper()
	if got := readArea(t, d, "own"); !got.is(has) {
		t.Errorf("has %q; want %q", got, has)
	}
}

// wantGood asks for what there is now, and behind each crash.
func wantGood(t testing.TB, d *disk.Disk, has list) {
	t.Helper()
	wantList(t, d, has)
	eachCrash(d, func(x *disk.Disk) { wantList(t, x, has) })
}

func wantOneOf(t testing.TB, d *disk.Disk, either []list) list {
	t.Helper()
	got := readArea(t, d, "own")
	for _, x := range either {
		if got.is(x) {
			return x
		}
	}
	t.Fatalf("has %q; want one of %q", got, either)
	return nil
}

// eachCrash goes through what may be left behind a crash: each number of acts, and each number of bytes of the next one, of which a file that is short has no more than so many.
func eachCrash(d *disk.Disk, body func(x *disk.Disk)) {
	for keep := range d.Loose() + 1 {
		before := -1
		for torn := range 300 {
			x := d.Crash(keep, torn)
			n := bytesOf(x, "")
			if n == before { // there are no more bytes to be torn off
				break
			}
			body(x)
			before = n
		}
	}
}

// someCrashes goes through the same, but tears few numbers of bytes off.
func someCrashes(d *disk.Disk, body func(x *disk.Disk)) {
	for keep := range d.Loose() + 1 {
		before := -1
		for _, torn := range []int{0, 1, 17, 60} {
			x := d.Crash(keep, torn)
			if n := bytesOf(x, ""); n != before {
				body(x)
				before = n
			}
		}
	}
}

// filesOf are the names of an area's files, or of all; bytesOf how many bytes they have.
func filesOf(d *disk.Disk, area string) []string {
	return slices.DeleteFunc(d.Names(), func(name string) bool { return area != "" && !strings.HasPrefix(name, area+".") })
}

func bytesOf(d *disk.Disk, area string) int {
	n := 0
	for _, name := range filesOf(d, area) {
		n += d.Size(name)
	}
	return n
}

// snapshot is all that a disk has, and what it has when no loose act stays.
func snapshot(d *disk.Disk) string {
	var s strings.Builder
	for _, x := range []*disk.Disk{now(d), d.Crash(0, 0)} {
		for _, name := range x.Names() {
			b, _ := x.Read(name)
			s.WriteString(name + "=" + string(b) + "\n")
		}
		s.WriteString("--\n")
	}
	return s.String()
}

// call is one that changes a store, and what that has behind it.
type call struct {
	name string
	do   func(s *store.Store) api.Errno
	list func(has list) list
}

func put(some string) call {
	return call{"Put(" + some + ")",
		func(s *store.Store) api.Errno { return s.Put(objects(some)...) },
		func(has list) list { return has.plus(some) }}
}

func keep(some string) call {
	return call{"Keep(" + some + ")",
		func(s *store.Store) api.Errno { return s.Keep(ids(some)...) },
		func(has list) list { return has.only(some) }}
}

func pack() call {
	return call{"Pack()", (*store.Store).Pack, func(has list) list { return has }}
}

// calls are of all kinds; the states' stores have a, b, c, d, or less.
func calls() []call {
	return []call{put("x yy"), put("b x a"), put("a"), put(""), keep("c x a"), keep(""), keep("a b c d"), pack()}
}

// state is a disk with a store that was opened on it.
type state struct {
	name string
	make func(t testing.TB) (*disk.Disk, *store.Store)
	has  list
}

func reopened(t testing.TB, d *disk.Disk) (*disk.Disk, *store.Store) {
	t.Helper()
	return d, open(t, d)
}

// cutAt is what a crash leaves with the power gone at the call's operation op, counted from 0 on.
func cutAt(t testing.TB, d *disk.Disk, s *store.Store, c call, op, keep, torn int) *disk.Disk {
	t.Helper()
	d.CutAt(d.Ops() + op)
	want(t, c.name+" with the power gone", c.do(s), api.ErrDiskOff)
	return d.Crash(keep, torn)
}

// opsOf is how many operations a call takes, as the same call on the same disk shows it.
func opsOf(t testing.TB, s state, c call) int {
	t.Helper()
	d, x := s.make(t)
	before := d.Ops()
	want(t, s.name+": "+c.name, c.do(x), api.OK)
	return d.Ops() - before
}

// states are the ones that a store may be in, between calls.
func states() []state {
	three := func(t testing.TB) (*disk.Disk, *store.Store) { return storeOf(t, "a b", "c", "d") }
	behind := func(c call) func(t testing.TB) (*disk.Disk, *store.Store) {
		return func(t testing.TB) (*disk.Disk, *store.Store) {
			d, s := three(t)
			want(t, c.name, c.do(s), api.OK)
			return d, s
		}
	}
	all := []state{
		{"new", func(t testing.TB) (*disk.Disk, *store.Store) { return storeOf(t) }, nil},
		{"of one file", func(t testing.TB) (*disk.Disk, *store.Store) { return storeOf(t, "a b") }, words("a b")},
		{"of three files", three, words("a b c d")},
		{"packed", behind(pack()), words("a b c d")},
		{"kept", behind(keep("d a")), words("a d")},
		{"emptied", behind(keep("")), nil},
		{"packed and put into", func(t testing.TB) (*disk.Disk, *store.Store) {
			d, s := behind(keep("a b"))(t)
			want(t, "Put", s.Put(of("c")), api.OK)
			return d, s
		}, words("a b c")},
		{"opened", func(t testing.TB) (*disk.Disk, *store.Store) {
			d, _ := three(t)
			return reopened(t, d)
		}, words("a b c d")},
		{"behind a crash", func(t testing.TB) (*disk.Disk, *store.Store) {
			d, _ := three(t)
			return reopened(t, d.Crash(0, 0))
		}, words("a b c d")},
		{"beside another one's loose acts", func(t testing.TB) (*disk.Disk, *store.Store) {
			d, _ := three(t)
			want(t, "Append", d.Append("other", []byte("xyz")), api.OK)
			return reopened(t, d)
		}, words("a b c d")},
	}
	return append(append(all, failed()...), cut()...)
}

// failed are states behind calls that failed, with what would have tidied up failing, too.
func failed() []state {
	var all []state
	for _, ops := range [][2]int{{0, 1}, {1, 2}, {1, 3}, {2, 3}, {2, 4}, {3, 4}} {
		all = append(all, state{"behind a Put that failed", func(t testing.TB) (*disk.Disk, *store.Store) {
			d, s := storeOf(t, "a b", "c")
			d.FailAt(d.Ops()+ops[0], d.Ops()+ops[1])
			want(t, "Put", s.Put(of("lost")), api.ErrDiskIO)
			return d, s
		}, words("a b c")})
	}
	for op := range 4 {
		all = append(all, state{"behind a Keep that did not remove", func(t testing.TB) (*disk.Disk, *store.Store) {
			d, s := storeOf(t, "a b", "c", "d")
			d.FailAt(d.Ops() + 6 + op) // behind two reads, and four operations by which it is done
			want(t, "Keep", s.Keep(ids("a d")...), api.OK)
			return d, s
		}, words("a d")})
	}
	return all
}

// cut are states behind calls that were cut off, and a crash.
func cut() []state {
	var all []state
	for op := range 4 {
		for acts := range min(op, 1) + 1 {
			all = append(all, state{"behind a Put cut off", func(t testing.TB) (*disk.Disk, *store.Store) {
				d, s := storeOf(t, "a b", "c")
				return reopened(t, cutAt(t, d, s, put("lost"), op, acts, 20))
			}, words("a b c")})
		}
		for acts := range op + 1 {
			all = append(all, state{"behind a Keep cut off", func(t testing.TB) (*disk.Disk, *store.Store) {
				d, s := storeOf(t, "a b", "c", "d")
				return reopened(t, cutAt(t, d, s, keep("a d"), 6+op, acts, 0))
			}, words("a d")})
		}
	}
	return all
}
