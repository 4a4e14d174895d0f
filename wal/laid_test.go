package wal_test

import (
	"bytes"
	"math/rand"
	"slices"
	"strings"
	"testing"

	"tussock/api"
	"tussock/disk"
	"tussock/wal"
	"tussock/wire"
)

// diskWith has a file by another hand under a log's name.
func diskWith(t testing.TB, b []byte) *disk.Disk {
	t.Helper()
	d := newDisk(t, 1<<24)
	want(t, "Append", d.Append("l", b), api.OK)
	return d
}

func wantCorrupt(t testing.TB, what string, b []byte) {
	t.Helper()
	if l, groups, e := wal.Open(diskWith(t, b), "l"); l != nil || groups != nil || e != api.ErrWalCorrupt {
		t.Errorf("%s: %v, %q, %d; want ErrWalCorrupt", what, l, groups, e)
	}
}

// P5.1: bytes that no log lays.
func TestForeignFiles(t *testing.T) {
	r := rand.New(rand.NewSource(1))
	for _, text := range []string{"x", "hello", "wal", "l", "no log at all\n", "{}", "\n", "\x00", "\x01", "\xFF", "\x80"} {
		for _, n := range []int{1, 2, 3, 16, 100, 5000} {
			wantCorrupt(t, text, []byte(strings.Repeat(text, n)))
		}
	}
	for n := 1; n < 300; n++ {
		b := make([]byte, n)
		r.Read(b)
		b[0] &= 0x7F
		wantCorrupt(t, "any bytes", b)
	}
}

// P5.1: a file without bytes has no groups, and is gone on with.
func TestEmptyFile(t *testing.T) {
	for _, c := range calls() {
		for _, sync := range []bool{false, true} {
			d := diskWith(t, nil)
			if sync {
				want(t, "SyncDir", d.SyncDir(), api.OK)
			}
			wantList(t, d)
			for at := range 6 {
				x := newDisk(t, 1000)
				want(t, "Append", x.Append("l", nil), api.OK)
				if sync {
					want(t, "SyncDir", x.SyncDir(), api.OK)
				}
				l := open(t, x, "l")
				x.FailAt(x.Ops() + at)
				var has list
				if e := c.do(l, "a"); e == api.OK {
					has = list{"a"}
				} else {
					want(t, c.name, e, api.ErrDiskIO)
				}
				wantGood(t, x, has...)
			}
			l := open(t, d, "l")
			want(t, c.name, c.do(l, "a"), api.OK)
			wantGood(t, d, "a")
		}
	}
}

// bytesOfLog are those that a log lays for these groups, and where each group ends.
func bytesOfLog(t testing.TB, groups ...string) ([]byte, []int) {
	t.Helper()
	d, l := logOf(t)
	ends := []int{0}
	for _, g := range groups {
		want(t, "Append", l.Append(records(g)...), api.OK)
		ends = append(ends, l.Bytes())
	}
	b, e := d.Read("l")
	if e != api.OK || len(b) != ends[len(groups)] {
		t.Fatalf("the file has %d bytes, %d; the groups %v", len(b), e, ends)
	}
	return b, ends
}

// P5.1: the beginning of a log's file has the groups that are whole in it; the first one can't be torn.
func TestBeginnings(t *testing.T) {
	groups := []string{"a,b", "", "c,ddd", ",", strings.Repeat("e", 100)}
	b, ends := bytesOfLog(t, groups...)
	for n := 1; n <= len(b); n++ {
		whole := 0
		for whole < len(groups) && ends[whole+1] <= n {
			whole++
		}
		if whole == 0 {
			wantCorrupt(t, "a torn first group", b[:n])
			continue
		}
		d := diskWith(t, b[:n])
		wantList(t, d, groups[:whole]...)
		l := open(t, d, "l")
		if l.Bytes() != ends[whole] {
			t.Errorf("Bytes: %d; want %d", l.Bytes(), ends[whole])
		}
		want(t, "Append", l.Append("x"), api.OK)
		wantGood(t, d, append(slices.Clone(groups[:whole]), "x")...)
	}
}

// P5.1: bytes that are no group's behind groups, and groups with a byte more or less between them.
func TestBytesBetweenGroups(t *testing.T) {
	b, ends := bytesOfLog(t, "a,b", "", "c,ddd", ",")
	for _, more := range []string{"x", "\x00", "\xFF", "\n\n\n", "\x00\x00\x00\x00\x00\x00\x00\x00\x00\x00\x00\x00\x00\x00\x00\x00"} {
		wantCorrupt(t, "bytes behind", append(slices.Clone(b), more...))
		for _, at := range ends {
			wantCorrupt(t, "bytes between", slices.Insert(slices.Clone(b), at, []byte(more)...))
		}
	}
	for at := range ends[3] {
		wantCorrupt(t, "a byte less", slices.Delete(slices.Clone(b), at, at+1))
	}
	wantList(t, diskWith(t, append(slices.Clone(b), b...)), "a,b", "", "c,ddd", ",", "a,b", "", "c,ddd", ",")
}

// frame lays any bytes as a group's, with its sums right.
func frame(body []byte) []byte {
	return append(append(head(uint32(len(body))), body...), word(wire.Crc(body))...)
}

func head(size uint32) []byte {
	b := append([]byte("\xF5wal"), word(size)...)
	return append(b, word(wire.Crc(b))...)
}

func word(n uint32) []byte { return []byte{byte(n >> 24), byte(n >> 16), byte(n >> 8), byte(n)} }

func texts(records ...string) []byte {
	var b []byte
	for _, r := range records {
		b = append(b, wire.PutText(nil, r)...)
	}
	return b
}

// P5.1: groups whose sums are right, but that are no right groups.
func TestForgedGroups(t *testing.T) {
	wantList(t, diskWith(t, frame(texts("a", "b"))), "a,b")
	wantList(t, diskWith(t, frame(nil)), "")
	first := frame(texts("a"))
	for _, ahead := range [][]byte{nil, first} {
		for what, body := range map[string][]byte{
			"too many records":           texts(make([]string, 8193)...),
			"too many bytes":             texts(strings.Repeat("x", 1<<21), "x"),
			"a record of too many bytes": texts(strings.Repeat("x", 1<<21+1)),
			"a length that is torn":      {0x80},
			"a length that is too long":  {0x80, 0x00},
			"a length below 0":           {0x01},
			"a length below 0, of two":   {0x81, 0x01, 0x00},
			"a record that is too short": {0x04, 'a'},
			"a second one too short":     append(texts("a"), 0x06, 'b', 'c'),
			"a great length":             bytes.Repeat([]byte{0xFF}, 10),
		} {
			wantCorrupt(t, what, append(slices.Clone(ahead), frame(body)...))
		}
	}
	if got := read(t, diskWith(t, frame(texts(make([]string, 8192)...))), "l"); !got.is(list{strings.Repeat(",", 8191)}) {
		t.Error("8192 empty records:", len(got))
	}
}

// P5.1: beginnings of groups that no crash leaves, since no right group begins so.
func TestForgedTornGroups(t *testing.T) {
	first := frame(texts("a"))
	behind := func(parts ...[]byte) []byte { return append(slices.Clone(first), slices.Concat(parts...)...) }
	for what, b := range map[string][]byte{
		"a mark of others":           behind([]byte("\xF5wax")),
		"a length that is too great": behind([]byte("\xF5wal\xFF")),
		"too great, of four bytes":   behind([]byte("\xF5wal\x00\x20\x80\x01")),
		"a sum of others":            behind([]byte("\xF5wal"), word(8), []byte{head(8)[8] ^ 1}),
		"a length below 0":           behind(head(9), []byte{0x01}),
		"torn, below 0":              behind(head(9), []byte{0x81}),
		"a record that is too long":  behind(head(9), []byte{0x12}),
		"torn, too long":             behind(head(9), []byte{0x80}),
		"torn, just too long":        behind(head(65), []byte{0x80}),
		"the second one too long":    behind(head(9), texts("abc"), []byte{0x0A, 'x'}),
		"longer than any":            behind(head(1<<21+1000), wire.PutInt(nil, 1<<21+1)),
		"a number of too many bytes": behind(head(1<<21), []byte{0x80, 0x00}),
		"too many records":           behind(head(9000), texts(make([]string, 8193)...)),
		"too many, the last torn":    behind(head(9000), texts(make([]string, 8193)...), []byte{0x04, 'x'}),
		"a last sum of others":       behind(head(2), texts("x"), []byte{word(wire.Crc(texts("x")))[0] ^ 1}),
		"a whole one, too short":     behind(head(2), []byte{0x04, 'x'}),
	} {
		wantCorrupt(t, what, b)
	}
	for what, b := range map[string][]byte{
		"a mark":                behind([]byte("\xF5wa")),
		"a great length":        behind([]byte("\xF5wal\x00\x20")),
		"a head":                behind(head(9)),
		"a record":              behind(head(9), []byte{0x10}),
		"torn, just long":       behind(head(66), []byte{0x80}),
		"torn, of three":        behind(head(1<<20), []byte{0x80, 0x80}),
		"the longest one":       behind(head(1<<21+4), wire.PutInt(nil, 1<<21)),
		"the second one":        behind(head(9), texts("abc"), []byte{0x08, 'x'}),
		"as many as there may":  behind(head(9000), texts(make([]string, 8192)...)),
		"a part of the sum":     behind(head(2), texts("x"), word(wire.Crc(texts("x")))[:3]),
		"all but the sum":       behind(head(2), texts("x")),
		"a record, then no sum": behind(head(0), word(0)[:3]),
	} {
		if got := read(t, diskWith(t, b), "l"); !got.is(list{"a"}) {
			t.Errorf("%s: %q", what, got)
		}
	}
}

// P5.1, P5.5: other hands' files beside the log's own are no log, and in nobody's way.
func TestForeignFilesBeside(t *testing.T) {
	for _, s := range states() {
		for _, c := range calls() {
			d, _ := s.make(t)
			for _, name := range append(filesOf(d, "l"), "l~", "l~x", "l~0", "l~anew") {
				if name == "l" {
					continue
				}
				want(t, "Append", d.Append(name, []byte("other bytes")), api.OK)
			}
			wantList(t, d, s.has...)
			l := open(t, d, "l")
			want(t, c.name, c.do(l, "x"), api.OK)
			wantGood(t, d, c.list(s.has, "x")...)
		}
	}
}

// R1, P5.1: Open of any bytes ends, and what it takes for a log is gone on with.
func FuzzOpen(f *testing.F) {
	b, _ := bytesOfLog(f, "a,b", "", "c,ddd")
	for n := 0; n <= len(b); n += 5 {
		f.Add(b[:n])
	}
	f.Add([]byte("no log"))
	f.Add(append(slices.Clone(b), frame([]byte{0x80})...))
	f.Fuzz(func(t *testing.T, b []byte) {
		d := diskWith(t, b)
		l, groups, e := wal.Open(d, "l")
		if e == api.ErrWalCorrupt && l == nil && groups == nil {
			return
		}
		want(t, "Open", e, api.OK)
		want(t, "Append", l.Append("x", ""), api.OK)
		wantLaid(t, d.Crash(0, 0), append(groups, []string{"x", ""}))
	})
}
