package tiers_test

import (
	"bytes"
	"slices"
	"strings"
	"testing"

	"tussock/api"
	"tussock/disk"
	"tussock/hash"
	"tussock/store"
	"tussock/tiers"
)

const ample = 1 << 20

func want(t testing.TB, call string, got, want api.Errno) {
	t.Helper()
	if got != want {
		t.Errorf("%s: %d; want %d", call, got, want)
	}
}

// of is the right object of a text, objects those of the words of one, idOf and ids are theirs.
func of(text string) api.Object { return api.Object{Id: hash.Sum(text), Bytes: text} }

func objects(words string) []api.Object {
	var out []api.Object
	for _, w := range strings.Fields(words) {
		out = append(out, of(w))
	}
	return out
}

func idOf(text string) string { return hash.Sum(text) }

func ids(words string) []string {
	var out []string
	for _, o := range objects(words) {
		out = append(out, o.Id)
	}
	return out
}

// rising are the words of a text by their ids, which is the order of what was never used.
func rising(words string) []string {
	out := strings.Fields(words)
	slices.SortFunc(out, func(a, b string) int { return strings.Compare(idOf(a), idOf(b)) })
	return out
}

// afar has objects, and writes down what it is asked for. What it answers are those that it has, or what says says.
type afar struct {
	has   []api.Object
	says  func(ids []string) ([]api.Object, api.Errno)
	asked []string // the words of what was asked for, a text for each call
}

func (f *afar) answer(ids ...string) ([]api.Object, api.Errno) {
	f.asked = append(f.asked, f.words(ids))
	if f.says != nil {
		return f.says(ids)
	}
	var out []api.Object
	for _, id := range ids {
		for _, o := range f.has {
			if o.Id == id {
				out = append(out, o)
			}
		}
	}
	return out, api.OK
}

// words are the texts of ids, as far as it has them.
func (f *afar) words(ids []string) string {
	var out []string
	for _, id := range ids {
		word := "?"
		for _, o := range f.has {
			if o.Id == id {
				word = o.Bytes
			}
		}
		out = append(out, word)
	}
	return strings.Join(out, " ")
}

// say lets it answer these objects from now on, whatever it is asked for; fail an error, beside all that it has.
func (f *afar) say(objs ...api.Object) {
	f.says = func([]string) ([]api.Object, api.Errno) { return objs, api.OK }
}

func (f *afar) fail(e api.Errno) {
	f.says = func([]string) ([]api.Object, api.Errno) { return f.has, e }
}

// bench is tiers over two stores, each on a disk of its own, so that each has its own failures.
type bench struct {
	*tiers.Tiers
	ownDisk, nearDisk *disk.Disk
	own, near         *store.Store
	far               *afar
}

// layout says what there is ahead of New: objects by their words, and budgets.
type layout struct {
	own, near, far string
	memory, disk   int
}

func newDisk(t testing.TB) *disk.Disk {
	t.Helper()
	d, e := disk.New(ample)
	want(t, "disk.New", e, api.OK)
	return d
}

func openStore(t testing.TB, d *disk.Disk, area string) *store.Store {
	t.Helper()
	s, e := store.Open(d, area)
	if s == nil || e != api.OK {
		t.Fatalf("store.Open(%q): %v, %d", area, s, e)
	}
	return s
}

func newBench(t testing.TB, l layout) *bench {
	t.Helper()
	b := &bench{ownDisk: newDisk(t), nearDisk: newDisk(t), far: &afar{has: objects(l.far)}}
	b.own, b.near = openStore(t, b.ownDisk, "own"), openStore(t, b.nearDisk, "near")
	want(t, "own.Put", b.own.Put(objects(l.own)...), api.OK)
	want(t, "near.Put", b.near.Put(objects(l.near)...), api.OK)
	b.join(t, l.memory, l.disk)
	return b
}

// join makes tiers anew over the same stores, and the same far.
func (b *bench) join(t testing.TB, memory, disk int) {
	t.Helper()
	b.Tiers = newTiers(t, b.own, b.near, memory, disk, b.far.answer)
}

func newTiers(t testing.TB, own, near *store.Store, memory, disk int, far tiers.Far) *tiers.Tiers {
	t.Helper()
	x, e := tiers.New(own, near, memory, disk, far)
	if x == nil || e != api.OK {
		t.Fatalf("New: %v, %d", x, e)
	}
	return x
}

// wantGet asks for objects by their words, one after the other.
func wantGet(t testing.TB, x *tiers.Tiers, words string) {
	t.Helper()
	for _, o := range objects(words) {
		wantObject(t, x, o)
	}
}

func wantObject(t testing.TB, x *tiers.Tiers, o api.Object) {
	t.Helper()
	if got, e := x.Get(o.Id); got != o.Bytes || e != api.OK {
		t.Errorf("Get(%q's id): %q, %d", head(o.Bytes), head(got), e)
	}
}

// wantNoGet asks for an id to which the answer is an error.
func wantNoGet(t testing.TB, x *tiers.Tiers, id string, e api.Errno) {
	t.Helper()
	if got, e2 := x.Get(id); got != "" || e2 != e {
		t.Errorf("Get: %q, %d; want %d", head(got), e2, e)
	}
}

func (b *bench) wantFetch(t testing.TB, words string, e api.Errno) {
	t.Helper()
	want(t, "Fetch("+words+")", b.Fetch(ids(words)...), e)
}

// wantAsked is what far was asked for since this was asked last: words for each call.
func (b *bench) wantAsked(t testing.TB, calls ...string) {
	t.Helper()
	if !slices.Equal(b.far.asked, calls) {
		t.Errorf("far was asked for %q; want %q", b.far.asked, calls)
	}
	b.far.asked = nil
}

// wantUsed is near, in the order of use; wantMemory memory.
func (b *bench) wantUsed(t testing.TB, words string) {
	t.Helper()
	wantIds(t, "Used", b.Used(), ids(words))
	wantStore(t, b.nearDisk, "near", words)
}

func (b *bench) wantMemory(t testing.TB, words string) {
	t.Helper()
	wantIds(t, "Memory", b.Memory(), ids(words))
}

func wantIds(t testing.TB, call string, got, want []string) {
	t.Helper()
	if !slices.Equal(got, want) {
		t.Errorf("%s: %x; want %x", call, got, want)
	}
}

// wantStore is what an area has for good, in whatever order.
func wantStore(t testing.TB, d *disk.Disk, area, words string) {
	t.Helper()
	got, has := openStore(t, d.Crash(0, 0), area).Ids(), ids(words)
	slices.Sort(has)
	if !slices.Equal(got, has) {
		t.Errorf("%s has %x; want %x", area, got, has)
	}
}

// now is the disk as it is, in a copy: its operations stay as they are.
func now(d *disk.Disk) *disk.Disk { return d.Crash(d.Loose(), 0) }

// answerOf is what an area's store, opened on a copy, answers to a Get; -1: it can't be opened.
func answerOf(d *disk.Disk, area, id string) api.Errno {
	s, e := store.Open(now(d), area)
	if e != api.OK {
		return -1
	}
	_, e = s.Get(id)
	return e
}

// turn turns a byte of an object, wherever it lies; turned again it is what it was.
func turn(t testing.TB, d *disk.Disk, area, text string) {
	t.Helper()
	becomes := api.ErrStoreCorrupt
	if answerOf(d, area, idOf(text)) == api.ErrStoreCorrupt {
		becomes = api.OK
	}
	for _, name := range d.Names() {
		all, _ := now(d).Read(name)
		for at := range all {
			if !bytes.HasPrefix(all[at+1:], []byte(text)[1:]) { // the first byte may be turned already
				continue
			}
			want(t, "Turn", d.Turn(name, at, 0x80), api.OK)
			if answerOf(d, area, idOf(text)) == becomes {
				return
			}
			want(t, "Turn back", d.Turn(name, at, 0x80), api.OK)
		}
	}
	t.Fatalf("%q lies nowhere", head(text))
}

// turnNear turns bytes of near's objects, by their words.
func (b *bench) turnNear(t testing.TB, words string) {
	t.Helper()
	for _, w := range strings.Fields(words) {
		turn(t, b.nearDisk, "near", w)
	}
}

// head keeps what a failed test tells short.
func head(s string) string { return s[:min(len(s), 20)] }
