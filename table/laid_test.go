package table_test

import (
	"math/rand"
	"strings"
	"testing"

	"tussock/api"
	"tussock/disk"
	"tussock/table"
	"tussock/wal"
	"tussock/wire"
)

// text is a text's bytes, with its length ahead.
func text(s string) string { return string(wire.PutText(nil, s)) }

// pair is the record of a put that lays one; text that of one that takes it away.
func pair(key, val string) string { return text(key) + text(val) }

// diskWith has a log by another hand under a table's name.
func diskWith(t testing.TB, groups ...[]string) *disk.Disk {
	t.Helper()
	d := newDisk(t, 1<<26)
	l, _, e := wal.Open(d, "t")
	want(t, "a log's Open", e, api.OK)
	for _, g := range groups {
		want(t, "a log's Append", l.Append(g...), api.OK)
	}
	return d
}

func wantCorrupt(t testing.TB, what string, d *disk.Disk) {
	t.Helper()
	if x, e := table.Open(d, "t"); x != nil || e != api.ErrTableCorrupt {
		t.Errorf("%s: %v, %d; want ErrTableCorrupt", what, x, e)
	}
}

// P13.1: files that are no log's.
func TestForeignFiles(t *testing.T) {
	r := rand.New(rand.NewSource(1))
	for _, s := range []string{"x", "hello", "t", "no table at all\n", "{}", "\n", "\x00", "\x01", "\xFF", "\x80"} {
		for _, n := range []int{1, 2, 3, 16, 100, 5000} {
			d := newDisk(t, ample)
			want(t, "Append", d.Append("t", []byte(strings.Repeat(s, n))), api.OK)
			wantCorrupt(t, s, d)
		}
	}
	for n := 1; n < 300; n++ {
		b := make([]byte, n)
		r.Read(b)
		b[0] &= 0x7F
		d := newDisk(t, ample)
		want(t, "Append", d.Append("t", b), api.OK)
		wantCorrupt(t, "any bytes", d)
	}
}

// P13.1: a file without bytes has no pairs.
func TestEmptyFile(t *testing.T) {
	d := newDisk(t, ample)
	want(t, "Append", d.Append("t", nil), api.OK)
	wantList(t, d, nil)
	x := open(t, d)
	want(t, "Commit", x.Commit(put("a", "1")), api.OK)
	wantGood(t, d, has("a=1"))
}

// P13.1: logs as a table lays them, by another hand, and others that differ in one thing: those no table lays.
func TestForgedLogs(t *testing.T) {
	long := strings.Repeat("l", 5000)
	wantList(t, diskWith(t, []string{pair("a", "1"), pair("b", "")}, []string{text("a")}, []string{pair("c", "3"), text("c"), text("x")}), has("b="))
	wantList(t, diskWith(t, []string{}), nil)
	wantList(t, diskWith(t, []string{}, []string{pair(long[:2048], long[:4096])}, []string{text(long[:2048])}), nil)
	for what, record := range map[string]string{
		"an empty record":                  "",
		"a torn key":                       text("abc")[:2],
		"a torn value":                     pair("a", "abc")[:4],
		"a byte behind a pair":             pair("a", "1") + "x",
		"two pairs":                        pair("a", "1") + pair("b", "2"),
		"three texts":                      pair("a", "1") + text(""),
		"a byte behind a key":              text("a") + "x",
		"a key that is too long":           pair(long[:2049], ""),
		"a gone one that is too long":      text(long[:2049]),
		"a value that is too long":         pair("a", long[:4097]),
		"a length that is longer than due": "\x82\x00a" + text("1"),
		"a length below 0":                 "\x01",
		"a value's length below 0":         text("a") + "\x01",
	} {
		wantCorrupt(t, what, diskWith(t, []string{record}))
		wantCorrupt(t, what+", behind pairs", diskWith(t, []string{pair("A", "")}, []string{pair("B", ""), record}))
		wantCorrupt(t, what+", then others", diskWith(t, []string{pair("A", "")}, []string{record}, []string{pair("B", "")}))
	}
	for what, first := range map[string][]string{
		"gone from nothing":   {text("a")},
		"keys that fall":      {pair("b", ""), pair("a", "")},
		"keys that stay":      {pair("a", ""), pair("a", "")},
		"one that is gone":    {pair("a", ""), text("b")},
		"keys of other bytes": {pair("a\x80", ""), pair("a", "")},
	} {
		wantCorrupt(t, what, diskWith(t, first))
		wantCorrupt(t, what+", then others", diskWith(t, first, []string{pair("c", "")}))
	}
	wantCorrupt(t, "no puts", diskWith(t, []string{pair("a", "")}, []string{}))
	wantCorrupt(t, "no puts, then others", diskWith(t, []string{}, []string{}, []string{pair("a", "")}))
}

// records are those of puts, as a table lays them.
func records(puts []api.Put) []string {
	var out []string
	for _, p := range puts {
		if p.Gone {
			out = append(out, text(p.Key))
		} else {
			out = append(out, pair(p.Key, p.Val))
		}
	}
	return out
}

// P13.1: logs of more than a Commit may put, or than a table may have.
func TestForgedLimits(t *testing.T) {
	const most = 1048576
	one := numbered(0, 1, "")
	wantList(t, diskWith(t, records(numbered(0, 2000, ""))), list(nil).with(numbered(0, 2000, "")...))
	wantCorrupt(t, "2001 pairs", diskWith(t, records(numbered(0, 2001, ""))))
	wantCorrupt(t, "2001 puts", diskWith(t, records(one), records(append(numbered(0, 2000, ""), one...))))
	wantCorrupt(t, "2001 pairs of two groups", diskWith(t, records(numbered(0, 2000, "")), records(numbered(2000, 1, ""))))
	wantCorrupt(t, "2001 pairs, then less", diskWith(t, records(numbered(0, 2000, "")), records(numbered(2000, 1, "")), records(goneOf(one))))
	wantList(t, diskWith(t, records(numbered(0, 2000, "")), records(append(numbered(2000, 1, ""), goneOf(one)...))), list(nil).with(numbered(1, 2000, "")...))
	wantList(t, diskWith(t, records(heavy(most))), list(nil).with(heavy(most)...))
	wantCorrupt(t, "a pair too heavy", diskWith(t, records(heavy(most+1))))
	wantCorrupt(t, "two groups too heavy", diskWith(t, records(heavy(most)), records([]api.Put{put("h100000", strings.Repeat("v", 4096)), put("", "")})))
	wantList(t, diskWith(t, nil, records(texts(most, true))), nil)
	wantCorrupt(t, "puts of too many bytes", diskWith(t, nil, records(texts(most+1, true))))
}

// P13.1: what a Commit lays is what the forged logs have: so they are refused for the one thing in which they differ.
func TestWhatIsLaid(t *testing.T) {
	d, x := tableOf(t, "b=2 a=1", "-b c=3 c=4", "-none")
	_, groups, e := wal.Open(d, "t")
	want(t, "a log's Open", e, api.OK)
	for i, g := range [][]string{{pair("a", "1"), pair("b", "2")}, {text("b"), pair("c", "3"), pair("c", "4")}, {text("none")}} {
		if strings.Join(groups[i], "|") != strings.Join(g, "|") {
			t.Errorf("group %d: %q; want %q", i, groups[i], g)
		}
	}
	want(t, "Commit of great puts", x.Commit(great()...), api.OK)
	if _, groups, _ := wal.Open(d, "t"); len(groups) != 1 {
		t.Errorf("%d groups behind great puts", len(groups))
	}
}

// P13.1, P13.6: files of other hands beside the table's own are no table, and in nobody's way.
func TestForeignFilesBeside(t *testing.T) {
	for _, s := range states() {
		for _, c := range calls() {
			d, _ := s.make(t)
			for _, name := range []string{"t~", "t~x", "t~0", "t~anew", "t0", "t.1", "~t", "T"} {
				want(t, "Append", d.Append(name, []byte("other bytes")), api.OK)
			}
			wantList(t, d, s.has)
			x := open(t, d)
			want(t, c.name, c.do(x), api.OK)
			wantTold(t, x, c.list(s.has))
			wantGood(t, d, c.list(s.has))
		}
	}
}

// Two tables, and logs, on one disk: each has its own, whatever the others do.
func TestSeveralOnOneDisk(t *testing.T) {
	d := newDisk(t, ample)
	names := []string{"t", "t2", "tt", "T", "t.", "t-", strings.Repeat("t", 70)}
	var tables []*table.Table
	lists := make([]list, len(names))
	for _, name := range names {
		tables = append(tables, openName(t, d, name))
	}
	l, _, e := wal.Open(d, "log")
	want(t, "a log's Open", e, api.OK)
	for i := range 60 {
		k := i * i % len(names)
		p := []api.Put{put(string(rune('a'+i%5)), names[k]), gone(string(rune('a' + i%3)))}
		if i%11 == 10 {
			p = great()
		}
		want(t, "Commit", tables[k].Commit(p...), api.OK)
		lists[k] = lists[k].with(p...)
		want(t, "a log's Append", l.Append(names[k]), api.OK)
		if i%9 == 8 {
			want(t, "a log's Reset", l.Reset(), api.OK)
		}
		for j, name := range names {
			wantTold(t, tables[j], lists[j])
			wantTold(t, openName(t, d.Crash(0, 0), name), lists[j])
		}
	}
	if _, groups, e := wal.Open(d.Crash(0, 0), "log"); e != api.OK || len(groups) != 7 {
		t.Errorf("the log has %d groups, %d", len(groups), e)
	}
}

// R1, P13.1: Open of any log ends, and what it takes for a table is gone on with.
func FuzzOpen(f *testing.F) {
	f.Add([]byte(pair("a", "1")), []byte(pair("b", "2")), byte(1))
	f.Add([]byte(text("a")), []byte(pair("b", "2")+"x"), byte(2))
	f.Add([]byte(pair("b", "")), []byte(text("b")), byte(3))
	f.Add([]byte{}, []byte{0x80}, byte(0))
	f.Fuzz(func(t *testing.T, one, two []byte, n byte) {
		groups := [][]string{{string(one)}, {string(two), string(one)}, {}, {string(one), string(two)}}
		first := int(n) % len(groups)
		d := diskWith(t, groups[first], groups[(first+int(n/4))%len(groups)])
		x, e := table.Open(d, "t")
		if e == api.ErrTableCorrupt && x == nil {
			return
		}
		want(t, "Open", e, api.OK)
		before := told(t, x)
		want(t, "Commit", x.Commit(put("x", ""), gone("a")), api.OK)
		want(t, "Commit", x.Commit(put("y", "")), api.OK)
		wantList(t, d.Crash(0, 0), before.with(put("x", ""), gone("a"), put("y", "")))
	})
}
