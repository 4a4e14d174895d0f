package store_test

import (
	"math/rand"
	"slices"
	"strconv"
	"strings"
	"testing"

	"tussock/api"
	"tussock/disk"
	"tussock/hash"
	"tussock/store"
	"tussock/wire"
)

func wantNoOpen(t testing.TB, d *disk.Disk, want api.Errno) {
	t.Helper()
	if s, e := store.Open(d, "own"); s != nil || e != want {
		t.Errorf("Open of %q: %v, %d; want nil, %d", d.Names(), s, e, want)
	}
}

// lay lays files by another hand, each a name and its bytes.
func lay(t testing.TB, files ...string) *disk.Disk {
	t.Helper()
	d := newDisk(t, 1<<24)
	for i := 0; i < len(files); i += 2 {
		want(t, "Append", d.Append(files[i], []byte(files[i+1])), api.OK)
	}
	return d
}

// replaced is a disk with one file's bytes others.
func replaced(t testing.TB, d *disk.Disk, name string, b []byte) *disk.Disk {
	t.Helper()
	x := now(d)
	want(t, "Remove", x.Remove(name), api.OK)
	want(t, "Append", x.Append(name, b), api.OK)
	return x
}

// P9.1: files cut short at each byte, made longer, empty: no store laid them, and none is made of them that has less.
func TestFilesOfOtherLengths(t *testing.T) {
	for _, s := range states() {
		d, _ := s.make(t)
		for _, name := range filesOf(d, "own") {
			b, e := now(d).Read(name)
			want(t, "Read", e, api.OK)
			var others [][]byte
			for n := range len(b) {
				others = append(others, b[:n])
			}
			for _, more := range []string{"\x00", "x", "\xF5add", string(b)} {
				others = append(others, append(slices.Clone(b), more...), append([]byte(more), b...))
			}
			for _, other := range others {
				x := replaced(t, d, name, other)
				k, e := store.Open(x, "own")
				if e == api.OK { // it was a file that does not count
					wantTold(t, k, s.has)
					want(t, "Put", k.Put(of("z")), api.OK)
					wantList(t, x, s.has.plus("z"))
				} else {
					want(t, s.name, e, api.ErrStoreCorrupt)
				}
			}
		}
	}
	for _, puts := range [][]string{{"a b"}, {"a", "b", "c"}} { // of a store between calls each file counts
		d, _ := storeOf(t, puts...)
		for _, name := range filesOf(d, "own") {
			for n := range d.Size(name) {
				b, _ := d.Read(name)
				wantNoOpen(t, replaced(t, d, name, b[:n]), api.ErrStoreCorrupt)
			}
		}
	}
}

// P9.1: names that begin with the area and a point, and that no store gives; beside nothing, and beside a store's files.
func TestForeignNames(t *testing.T) {
	for _, name := range []string{"own.", "own.x", "own.01", "own.00", "own.-1", "own.+1", "own.1x", "own.0.", "own.0.0", "own. 0", "own.0x1", "own.1e3", "own.Anew", "own.anew2", "own.new", "own.~", "own.2147483648", "own.4294967296", "own.18446744073709551616", "own.99999999999999999999999999999", "own..0", "own.own.0"} {
		for _, bytes := range []string{"", "xyz"} {
			d := newDisk(t, ample)
			e := d.Append(name, []byte(bytes))
			if e == api.ErrDiskName { // one with a space in it
				continue
			}
			wantNoOpen(t, d, api.ErrStoreCorrupt)
			d, s := storeOf(t, "a", "b")
			want(t, "Append", d.Append(name, []byte(bytes)), api.OK)
			wantNoOpen(t, d, api.ErrStoreCorrupt)
			wantTold(t, s, words("a b"))
			want(t, "Put", s.Put(of("c")), api.OK)
			want(t, "Keep", s.Keep(ids("a c")...), api.OK)
			want(t, "Pack", s.Pack(), api.OK)
			if b, e := d.Read(name); string(b) != bytes || e != api.OK {
				t.Errorf("%s: %q, %d", name, b, e)
			}
			want(t, "Remove", d.Remove(name), api.OK)
			wantList(t, d, words("a c"))
		}
	}
}

// P9.1: a store's files, but one of them gone, or under another one's number.
func TestFilesGoneOrMoved(t *testing.T) {
	d, _ := storeOf(t, "a", "b", "c", "d")
	for _, gone := range []string{"own.0", "own.1", "own.2"} {
		x := now(d)
		want(t, "Remove", x.Remove(gone), api.OK)
		wantNoOpen(t, x, api.ErrStoreCorrupt)
	}
	for _, to := range []string{"own.4", "own.5", "own.2147483647", "own.10"} {
		for _, from := range d.Names() {
			x := now(d)
			want(t, "Rename", x.Rename(from, to), api.OK)
			wantNoOpen(t, x, api.ErrStoreCorrupt)
		}
	}
	for _, from := range d.Names() {
		for _, to := range d.Names() {
			if b, e := d.Read(from); e == api.OK && from != to {
				wantNoOpen(t, replaced(t, d, to, b), api.ErrStoreCorrupt)
			}
		}
	}
}

// P9.1: what is being laid, and what a base made void, may have any bytes: they do not count.
func TestWhatDoesNotCount(t *testing.T) {
	for _, bytes := range []string{"", "x", "\xF5all", strings.Repeat("long ", 1000)} {
		d := lay(t, "own.anew", bytes)
		wantList(t, d, nil)
		want(t, "Put", open(t, d).Put(of("a")), api.OK)
		wantGood(t, d, words("a"))
		if got := filesOf(d, "own"); len(got) != 1 {
			t.Errorf("the files %q", got)
		}
		for _, c := range calls() {
			d, s := storeOf(t, "a", "b", "c d")
			want(t, "Keep", s.Keep(ids("a b c")...), api.OK)
			for _, name := range []string{"own.anew", "own.0", "own.1", "own.2"} {
				want(t, "Append", d.Append(name, []byte(bytes)), api.OK)
			}
			wantList(t, d, words("a b c"))
			want(t, c.name, c.do(open(t, d)), api.OK)
			if !strings.HasPrefix(c.name, "Put") && len(filesOf(d, "own")) != 1 {
				t.Errorf("the files %q behind %s", filesOf(d, "own"), c.name)
			}
			wantGood(t, d, c.list(words("a b c")))
		}
	}
}

// P9.1: bytes that no store lays, under a name that one gives.
func TestForeignFiles(t *testing.T) {
	r := rand.New(rand.NewSource(9))
	for _, text := range []string{"x", "hello", "own", "\n", "\x00", "\xFF", "\xF5all", "\xF5add", "\xF5wal"} {
		for _, n := range []int{1, 2, 3, 4, 5, 16, 100, 5000} {
			wantNoOpen(t, lay(t, "own.0", strings.Repeat(text, n)), api.ErrStoreCorrupt)
		}
	}
	for n := range 300 {
		b := make([]byte, n)
		r.Read(b)
		wantNoOpen(t, lay(t, "own.0", string(b)), api.ErrStoreCorrupt)
		wantNoOpen(t, lay(t, "own.0", forged("\xF5all", 0, byIds("a b")...), "own.1", string(b)), api.ErrStoreCorrupt)
		wantNoOpen(t, lay(t, "own.0", string(b), "own.1", forged("\xF5add", 1, byIds("a b")...)), api.ErrStoreCorrupt)
		wantList(t, lay(t, "own.0", string(b), "own.1", forged("\xF5all", 1, byIds("a b")...)), words("a b"))
	}
}

func word(n uint32) string {
	return string([]byte{byte(n >> 24), byte(n >> 16), byte(n >> 8), byte(n)})
}

func summed(s string) string { return s + word(wire.Crc([]byte(s))) }

// rowOf is how a file tells an object.
func rowOf(id string, size int64) string { return id + string(wire.PutInt(nil, size)) }

// file is one with sums that are right, whatever they are of.
func file(mark string, number uint32, rows, behind string) string {
	return summed(mark+word(number)+word(uint32(len(rows)))) + summed(rows) + behind
}

// forged is a file with these objects, in their order.
func forged(mark string, number uint32, objs ...api.Object) string {
	rows, behind := "", ""
	for _, o := range objs {
		rows += rowOf(o.Id, int64(len(o.Bytes)))
		behind += o.Bytes
	}
	return file(mark, number, rows, behind)
}

// byIds are the objects of words, by rising ids.
func byIds(words string) []api.Object {
	all := objects(words)
	slices.SortFunc(all, func(a, b api.Object) int { return strings.Compare(a.Id, b.Id) })
	return all
}

// P9.1: files whose sums are right, and that a store could have laid, are a store's.
func TestFilesByAnotherHand(t *testing.T) {
	abc := byIds("a b c")
	wantList(t, lay(t, "own.0", forged("\xF5all", 0, abc...)), words("a b c"))
	wantList(t, lay(t, "own.7", forged("\xF5all", 7, abc...)), words("a b c"))
	wantList(t, lay(t, "own.7", forged("\xF5all", 7)), nil)
	wantList(t, lay(t, "own.7", forged("\xF5all", 7), "own.8", forged("\xF5add", 8, abc...)), words("a b c"))
	wantList(t, lay(t, "own.9", forged("\xF5all", 9, abc[0]), "own.10", forged("\xF5add", 10, abc[1:]...)), words("a b c"))
	wantList(t, lay(t, "own.9", forged("\xF5all", 9, abc...), "own.10", forged("\xF5all", 10, of("a")), "own.11", forged("\xF5add", 11, of("d"))), words("a d"))
	d, s := storeOf(t, "a", "c b")
	want(t, "Pack", s.Pack(), api.OK)
	if b, e := d.Read("own.2"); e != api.OK || string(b) != forged("\xF5all", 2, abc...) {
		t.Errorf("a store lays %q, %d", b, e)
	}
}

// P9.1: files whose sums are right, but that no store lays.
func TestForgedFiles(t *testing.T) {
	abc := byIds("a b c")
	a := rowOf(abc[0].Id, 1)
	all, add := "\xF5all", "\xF5add"
	for what, files := range map[string][]string{
		"another mark":                {"own.0", forged("\xF5wal", 0, abc...)},
		"another number":              {"own.0", forged(all, 1, abc...)},
		"no base":                     {"own.0", forged(add, 0, abc...)},
		"no base but a void one":      {"own.0", forged(all, 0, abc[0]), "own.2", forged(add, 2, abc[1])},
		"a gap":                       {"own.0", forged(all, 0, abc[0]), "own.1", forged(add, 1, abc[1]), "own.3", forged(add, 3, abc[2])},
		"more that has none":          {"own.0", forged(all, 0, abc[0]), "own.1", forged(add, 1)},
		"ids that fall":               {"own.0", forged(all, 0, abc[1], abc[0])},
		"an id twice":                 {"own.0", forged(all, 0, abc[0], abc[0])},
		"an id in two files":          {"own.0", forged(all, 0, abc...), "own.1", forged(add, 1, abc[1])},
		"an id of 31 bytes":           {"own.0", file(all, 0, rowOf(abc[0].Id[:31], 1), abc[0].Bytes)},
		"an id alone":                 {"own.0", file(all, 0, abc[0].Id, "")},
		"less than an id":             {"own.0", file(all, 0, "abc", "")},
		"half a row more":             {"own.0", file(all, 0, a+abc[1].Id[:10], abc[0].Bytes)},
		"a byte more behind rows":     {"own.0", file(all, 0, a+"\x00", abc[0].Bytes)},
		"a size below 0":              {"own.0", file(all, 0, rowOf(abc[0].Id, -1), "")},
		"a size that makes up for it": {"own.0", file(all, 0, rowOf(abc[0].Id, -1)+rowOf(abc[1].Id, 2), "x")},
		"a number that is too great":  {"own.2147483648", forged(all, 1<<31, abc...)},
		"a size that is too great":    {"own.0", file(all, 0, rowOf(of(strings.Repeat("x", 32769)).Id, 32769), strings.Repeat("x", 32769))},
		"a size without end":          {"own.0", file(all, 0, rowOf(abc[0].Id, 1<<62), "")},
		"a size in another form":      {"own.0", file(all, 0, abc[0].Id+"\x82\x00", abc[0].Bytes)},
		"a size that is torn":         {"own.0", file(all, 0, abc[0].Id+"\x80", abc[0].Bytes)},
		"a byte less behind":          {"own.0", file(all, 0, a, "")},
		"a byte more behind":          {"own.0", file(all, 0, a, abc[0].Bytes+"x")},
		"a byte behind none":          {"own.0", file(all, 0, "", "x")},
		"rows past the end":           {"own.0", summed(all+word(0)+word(1000)) + summed(a) + abc[0].Bytes},
		"rows without end":            {"own.0", summed(all+word(0)+word(1<<32-1)) + summed(a) + abc[0].Bytes},
		"fewer rows than there are":   {"own.0", summed(all+word(0)+word(0)) + summed(a) + abc[0].Bytes},
		"a head alone":                {"own.0", summed(all + word(0) + word(0))},
		"no head":                     {"own.0", ""},
		"a head's beginning":          {"own.0", all},
		"a greater one's beginning":   {"own.0", forged(all, 0, abc...), "own.1", forged(add, 1, of("d"))[:30]},
	} {
		d := lay(t, files...)
		if s, e := store.Open(d, "own"); s != nil || e != api.ErrStoreCorrupt {
			t.Errorf("%s: %v, %d; want ErrStoreCorrupt", what, s, e)
		}
	}
}

// P9.3, P9.6: rows whose objects are not theirs: that is told when they are read.
func TestForgedObjects(t *testing.T) {
	id := hash.Sum("x")
	d := lay(t, "own.0", file("\xF5all", 0, rowOf(id, 1), "y"))
	s := open(t, d)
	wantNoGet(t, s, id, api.ErrStoreCorrupt)
	if !s.Has(id) || s.Bytes() != 1 {
		t.Error("it is not there")
	}
	want(t, "Pack", s.Pack(), api.ErrStoreCorrupt)
	want(t, "Keep", s.Keep(id), api.ErrStoreCorrupt)
	want(t, "Keep", s.Keep(), api.OK)
	wantGood(t, d, nil)
}

// R1, P9.1: Open of any bytes ends, and what it takes for a store is gone on with.
func FuzzOpen(f *testing.F) {
	base := forged("\xF5all", 0, byIds("a b c")...)
	more := forged("\xF5add", 1, byIds("d e")...)
	f.Add([]byte(base), []byte(more))
	f.Add([]byte(base), []byte(forged("\xF5all", 1)))
	f.Add([]byte(base), []byte(base))
	for n := 0; n < len(base); n += 9 {
		f.Add([]byte(base)[:n], []byte(more)[:n/2])
	}
	f.Fuzz(func(t *testing.T, one, other []byte) {
		d := lay(t, "own.0", string(one), "own.1", string(other))
		s, e := store.Open(d, "own")
		if e == api.ErrStoreCorrupt && s == nil {
			return
		}
		want(t, "Open", e, api.OK)
		right := map[string]int{}
		for i, id := range s.Ids() {
			if text, e := s.Get(id); e == api.OK && hash.Sum(text) == id {
				right[id] = i
			} else {
				want(t, "Get", e, api.ErrStoreCorrupt)
			}
		}
		var stay []string
		for id := range right {
			stay = append(stay, id)
		}
		want(t, "Put", s.Put(of("z"+strconv.Itoa(len(stay)))), api.OK)
		want(t, "Keep", s.Keep(stay...), api.OK)
		if got := told(t, open(t, d.Crash(0, 0))); len(got) != len(stay) {
			t.Errorf("%d of %d stay", len(got), len(stay))
		}
	})
}
