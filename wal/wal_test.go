package wal_test

import (
	"slices"
	"strings"
	"testing"

	"tussock/api"
	"tussock/disk"
	"tussock/wal"
)

// The chapter's examples, as they stand in its table.
func TestExamples(t *testing.T) {
	d := newDisk(t, 10000)
	l, groups, e := wal.Open(d, "l")
	if l == nil || len(groups) != 0 || e != api.OK {
		t.Fatal(l, groups, e)
	}
	want(t, "Append(a, b)", l.Append("a", "b"), api.OK)
	want(t, "Append()", l.Append(), api.OK)
	want(t, "Append(c)", l.Append("c"), api.OK)
	wantList(t, d, "a,b", "", "c")
	want(t, "Reset(d)", l.Reset("d"), api.OK)
	wantList(t, d, "d")
	wantList(t, d.Crash(0, 0), "d")
	after := func(t testing.TB) (*disk.Disk, *wal.Log) {
		d, l := logOf(t, "a,b", "", "c")
		want(t, "Reset(d)", l.Reset("d"), api.OK)
		return d, l
	}
	d.CutAt(d.Ops() + lastOp(t, after, calls()[0], "e"))
	want(t, "Append(e)", l.Append("e"), api.ErrDiskOff)
	wantList(t, d.Crash(d.Loose(), 0), "d", "e")
	wantList(t, d.Crash(0, 0), "d")
	if l, groups, e := wal.Open(newDisk(t, 10000), strings.Repeat("n", 71)); l != nil || groups != nil || e != api.ErrWalForm {
		t.Error("Open of a name of 71 bytes:", l, groups, e)
	}
	_, l = logOf(t)
	want(t, "Append of 8193 records", l.Append(make([]string, 8193)...), api.ErrWalForm)
}

// P5.1: names that are none, by length and by each byte.
func TestOpenRefusesNames(t *testing.T) {
	for n := range 90 {
		checkName(t, strings.Repeat("n", n), n >= 1 && n <= 70)
	}
	checkName(t, strings.Repeat("~", 70), true)
	checkName(t, strings.Repeat("!", 71), false)
	for c := range 256 {
		for _, around := range []string{"", "a", strings.Repeat("a", 34)} {
			checkName(t, around+string([]byte{byte(c)})+around, c >= 33 && c <= 126)
		}
	}
	checkName(t, "a b", false)
	checkName(t, "ä", false)
	checkName(t, "~~", true)
}

func checkName(t *testing.T, name string, ok bool) {
	t.Helper()
	d := newDisk(t, 1000)
	l, groups, e := wal.Open(d, name)
	if !ok {
		if l != nil || groups != nil || e != api.ErrWalForm {
			t.Errorf("Open(%q): %v, %q, %d; want nil, none, ErrWalForm", name, l, groups, e)
		}
		d.CutAt(0)
		_, _, e = wal.Open(d, name)
		want(t, "Open, the power gone, too", e, api.ErrWalForm)
		_, _, e = wal.Open(nil, name)
		want(t, "Open of no disk", e, api.ErrNil)
		return
	}
	if l == nil || len(groups) != 0 || e != api.OK {
		t.Fatalf("Open(%q): %v, %q, %d", name, l, groups, e)
	}
	want(t, "Append", l.Append("a"), api.OK)
	want(t, "Reset", l.Reset("b"), api.OK)
	want(t, "Append", l.Append("c"), api.OK)
	if got := read(t, d.Crash(0, 0), name); !got.is(list{"b", "c"}) {
		t.Errorf("%q has %q", name, got)
	}
	if got := filesOf(d, name); !slices.Equal(got, d.Names()) || !slices.Contains(got, name) {
		t.Errorf("%q has the files %q", name, d.Names())
	}
}

// P5.1, P5.2, P5.4: nil disks, nil logs, a log that Open did not give.
func TestNil(t *testing.T) {
	if l, groups, e := wal.Open(nil, "l"); l != nil || groups != nil || e != api.ErrNil {
		t.Error("Open of no disk:", l, groups, e)
	}
	var l *wal.Log
	for _, c := range calls() {
		want(t, c.name, c.do(l), api.ErrNil)
		want(t, c.name, c.do(l, "a"), api.ErrNil)
		want(t, c.name+" of too many", c.do(l, make([]string, 8193)...), api.ErrNil)
		want(t, c.name+" of none's", c.do(new(wal.Log), "a"), api.ErrNil)
	}
	if n := l.Bytes(); n != 0 {
		t.Error("Bytes:", n)
	}
	if n := new(wal.Log).Bytes(); n != 0 {
		t.Error("Bytes of none's:", n)
	}
}

// P5.1: a disk without such a file has a log without groups, whatever other files it has; Open makes none.
func TestOpenOfNothing(t *testing.T) {
	d := newDisk(t, 1000)
	for _, name := range []string{"k", "ll", "L", "l2", "l.~"} {
		want(t, "Append", d.Append(name, []byte("xyz")), api.OK)
	}
	names, loose := d.Names(), d.Loose()
	l := open(t, d, "l")
	if n := l.Bytes(); n != 0 {
		t.Error("Bytes:", n)
	}
	wantList(t, d)
	if !slices.Equal(d.Names(), names) || d.Loose() != loose {
		t.Error("Open made", d.Names())
	}
	want(t, "Append", l.Append("a"), api.OK)
	wantGood(t, d, "a")
	for _, name := range names {
		if b, e := d.Read(name); string(b) != "xyz" || e != api.OK {
			t.Errorf("Read(%s): %q, %d", name, b, e)
		}
	}
}

// P5.1: Open only reads, in whatever state the log is.
func TestOpenOnlyReads(t *testing.T) {
	for _, s := range states() {
		d, _ := s.make(t)
		before := snapshot(t, d)
		loose := d.Loose()
		for range 2 {
			_, groups, e := wal.Open(d, "l")
			want(t, "Open", e, api.OK)
			if !told(groups).is(s.has) {
				t.Errorf("%s: has %q; want %q", s.name, told(groups), s.has)
			}
		}
		if snapshot(t, d) != before || d.Loose() != loose {
			t.Errorf("%s: Open changed the disk", s.name)
		}
	}
}

// snapshot is all that a disk has, and what it has when no loose act stays.
func snapshot(t testing.TB, d *disk.Disk) string {
	t.Helper()
	var s strings.Builder
	for _, x := range []*disk.Disk{now(d), d.Crash(0, 0)} {
		for _, name := range x.Names() {
			b, _ := x.Read(name)
			s.WriteString(name + "=" + string(b) + "\n")
		}
		s.WriteString("--\n")
	}
	return s.String()
}

// P5.1: each read of Open failing, and the power gone at it; behind that it goes on.
func TestOpenFails(t *testing.T) {
	for _, s := range states() {
		d, _ := s.make(t)
		d = now(d)
		open(t, d, "l")
		reads := d.Ops()
		if reads > 12 {
			t.Errorf("%s: Open takes %d operations", s.name, reads)
		}
		for at := range reads {
			x := now(d)
			x.CutAt(at)
			if l, groups, e := wal.Open(x, "l"); l != nil || groups != nil || e != api.ErrDiskOff {
				t.Errorf("%s: %v, %q, %d; want ErrDiskOff", s.name, l, groups, e)
			}
			if len(s.has) == 0 {
				continue // a read of a file that is not there does not fail
			}
			x = now(d)
			x.FailAt(at)
			if l, groups, e := wal.Open(x, "l"); l != nil || groups != nil || e != api.ErrDiskIO {
				t.Errorf("%s: %v, %q, %d; want ErrDiskIO", s.name, l, groups, e)
			}
			wantGood(t, x, s.has...)
			want(t, "Append", open(t, x, "l").Append("more"), api.OK)
			wantGood(t, x, s.has.plus("more")...)
		}
	}
}

// P5.2: groups stand in order, whatever their records are.
func TestAppendInOrder(t *testing.T) {
	every := make([]byte, 256)
	for i := range every {
		every[i] = byte(i)
	}
	d := newDisk(t, 100000)
	l := open(t, d, "l")
	var laid [][]string
	for _, g := range [][]string{
		{"a"}, {}, {""}, {"", ""}, {"b", "", "c"}, nil, {string(every)}, {strings.Repeat("x", 63), strings.Repeat("x", 64), strings.Repeat("x", 8191), strings.Repeat("x", 8192)},
		{"\xF5wal"}, {"\x00"}, {"l", "l~", "\xFF\xFE"}, {"a"}, {"a"}, {}, {""}, {},
	} {
		want(t, "Append", l.Append(g...), api.OK)
		laid = append(laid, g)
		wantLaid(t, d, laid)
		wantLaid(t, d.Crash(0, 0), laid)
	}
	for _, g := range laid {
		want(t, "Reset", l.Reset(g...), api.OK)
		wantLaid(t, d.Crash(0, 0), [][]string{g})
		want(t, "Append", l.Append("behind"), api.OK)
		wantLaid(t, d.Crash(0, 0), [][]string{g, {"behind"}})
	}
}

// wantLaid asks for groups as they are.
func wantLaid(t testing.TB, d *disk.Disk, laid [][]string) {
	t.Helper()
	_, groups, e := wal.Open(d.Crash(d.Loose(), 0), "l")
	if e != api.OK || !slices.EqualFunc(groups, laid, slices.Equal[[]string]) {
		t.Errorf("%q, %d; want %q", groups, e, laid)
	}
}

// sized are so many records, of so many bytes together.
func sized(many, bytes int) []string {
	all := make([]string, many)
	for i := range all {
		n := bytes / (many - i)
		all[i] = strings.Repeat(string(rune('a'+i%26)), n)
		bytes -= n
	}
	return all
}

// P5.2: groups at the edges of what is right.
func TestGreatGroups(t *testing.T) {
	const most = 1 << 21
	for _, g := range [][]string{sized(8192, 0), sized(8192, 8192), sized(8192, most), sized(8191, most-1), sized(1, most), sized(1, most-1), sized(2, most), append(sized(1, most), make([]string, 8191)...)} {
		for _, c := range calls() {
			d := newDisk(t, 3*most)
			l := open(t, d, "l")
			want(t, c.name, c.do(l, g...), api.OK)
			want(t, c.name, l.Append("small"), api.OK)
			wantLaid(t, d.Crash(0, 0), [][]string{g, {"small"}})
			checkBytes(t, l, [][]string{g, {"small"}})
			k := open(t, d.Crash(0, 0), "l")
			if k.Bytes() != l.Bytes() {
				t.Errorf("Bytes: %d; behind a crash %d", l.Bytes(), k.Bytes())
			}
		}
	}
}

// P5.2: groups that are not right; the disk is not even asked, and the log goes on.
func TestWrongGroups(t *testing.T) {
	const most = 1 << 21
	for _, g := range [][]string{sized(8193, 0), sized(8193, 8193), sized(20000, 0), sized(1, most+1), sized(2, most+1), sized(8192, most+1), append(sized(8192, most), "x"), sized(8193, most+1), append(sized(1, most), "x")} {
		for _, c := range calls() {
			d, l := logOf(t, "a", "b")
			before, bytes := snapshot(t, d), l.Bytes()
			want(t, c.name, c.do(l, g...), api.ErrWalForm)
			d.FailAt(d.Ops(), d.Ops()+1, d.Ops()+2)
			want(t, c.name+" failing at once", c.do(l, g...), api.ErrWalForm)
			d.SetRoom(0)
			want(t, c.name+" on a full disk", c.do(l, g...), api.ErrWalForm)
			d.CutAt(0)
			want(t, c.name+" with the power gone", c.do(l, g...), api.ErrWalForm)
			if snapshot(t, d) != before || l.Bytes() != bytes {
				t.Errorf("%s of a wrong group changed something", c.name)
			}
			d, l = logOf(t, "a", "b")
			want(t, c.name, c.do(l, g...), api.ErrWalForm)
			want(t, c.name, c.do(l, "c"), api.OK)
			wantGood(t, d, c.list(list{"a", "b"}, "c")...)
		}
	}
}

// P5.2: in each state a group is laid, for good, and nothing of it is loose.
func TestCallsInEachState(t *testing.T) {
	for _, s := range states() {
		for _, c := range calls() {
			d, l := s.make(t)
			others := d.Loose() // which are not the log's
			has := s.has
			for _, g := range []string{"x,y", "", "z", ","} {
				want(t, c.name, c.do(l, records(g)...), api.OK)
				has = c.list(has, g)
				wantGood(t, d, has...)
				if d.Loose() > others {
					t.Errorf("%s in %s leaves %d loose acts", c.name, s.name, d.Loose())
				}
			}
			k := open(t, d.Crash(0, 0), "l")
			if k.Bytes() != l.Bytes() {
				t.Errorf("%s: Bytes: %d; opened anew %d", s.name, l.Bytes(), k.Bytes())
			}
		}
	}
}

// P5.2: Reset behind Reset, Append behind Reset, on and on, with the log opened again between.
func TestLongUse(t *testing.T) {
	d, l := logOf(t)
	var has list
	for i := range 200 {
		g := strings.Repeat("r", i%7+1) + "," + strings.Repeat("s", i%3+1)
		c := calls()[0]
		if i%20 == 19 || i%33 == 32 {
			c = calls()[1]
		}
		want(t, c.name, c.do(l, records(g)...), api.OK)
		has = c.list(has, g)
		if i%5 == 4 {
			d = d.Crash(0, 0)
			l = open(t, d, "l")
		}
		wantList(t, d.Crash(0, 0), has...)
	}
	if got := filesOf(d, "l"); len(got) != 1 {
		t.Errorf("has the files %q", got)
	}
}

// P5.1, P5.2: a log that is read while it is used; two logs that lie on one disk, one's name the beginning of the other's.
func TestTwoLogs(t *testing.T) {
	for _, names := range [][2]string{{"l", "ll"}, {"l", "l2"}, {"l", "l."}, {"l", "l!"}, {"l", "k"}, {strings.Repeat("n", 69), strings.Repeat("n", 70)}} {
		d := newDisk(t, 100000)
		logs := []*wal.Log{open(t, d, names[0]), open(t, d, names[1])}
		has := []list{nil, nil}
		for i := range 40 {
			k := i * 7 % 5 % 2
			c := calls()[i/3%2]
			g := strings.Repeat("x", i)
			want(t, c.name, c.do(logs[k], records(g)...), api.OK)
			has[k] = c.list(has[k], g)
			if i%11 == 10 {
				d.FailAt(d.Ops() + i%4)
				if c.do(logs[1-k], "lost") == api.OK {
					has[1-k] = c.list(has[1-k], "lost")
				}
			}
			for j, name := range names {
				for _, x := range []*disk.Disk{d, d.Crash(0, 0)} {
					if got := read(t, x, name); !got.is(has[j]) {
						t.Fatalf("%s has %q; want %q", name, got, has[j])
					}
				}
			}
		}
	}
}

// R3: what is handed in is neither written into nor kept.
func TestRecordsAreNotKept(t *testing.T) {
	for _, c := range calls() {
		d, l := logOf(t, "first")
		room := []string{"a", "b", "spare", "room"}
		given := room[:2]
		want(t, c.name, c.do(l, given...), api.OK)
		if !slices.Equal(room, []string{"a", "b", "spare", "room"}) {
			t.Errorf("%s wrote into %q", c.name, room)
		}
		for i := range room {
			room[i] = "changed"
		}
		want(t, "Append", l.Append("last"), api.OK)
		wantGood(t, d, c.list(list{"first"}, "a,b").plus("last")...)
	}
}

// R3: what is handed out is new memory, and no two lists of it share any.
func TestGroupsAreNew(t *testing.T) {
	d, _ := logOf(t, "a,b", "", "c", "d,e,f", "g,h,i,j,k")
	l, groups, e := wal.Open(d, "l")
	want(t, "Open", e, api.OK)
	for i, g := range groups {
		before := told(groups)
		for j := range g {
			g[j] = "changed"
		}
		for j := range g[:cap(g)] {
			g[:cap(g)][j] = "changed"
		}
		_ = append(g, "more", "and more")
		after := told(groups)
		if !slices.Equal(slices.Delete(before, i, i+1), slices.Delete(after, i, i+1)) {
			t.Errorf("group %d shares memory: %q, %q", i, before, after)
		}
	}
	wantList(t, d, "a,b", "", "c", "d,e,f", "g,h,i,j,k")
	want(t, "Append", l.Append("l"), api.OK)
	wantGood(t, d, "a,b", "", "c", "d,e,f", "g,h,i,j,k", "l")
}

// R4: what a log does hangs on its calls and its disk alone: twice the same, twice the same bytes.
func TestTheSameTwice(t *testing.T) {
	run := func() string {
		var all strings.Builder
		for _, s := range states() {
			for _, c := range calls() {
				d, l := s.make(t)
				want(t, c.name, c.do(l, "x", "y"), api.OK)
				all.WriteString(snapshot(t, d))
			}
		}
		return all.String()
	}
	if run() != run() {
		t.Error("not the same twice")
	}
}
