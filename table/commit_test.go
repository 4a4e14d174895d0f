package table_test

import (
	"slices"
	"strconv"
	"strings"
	"testing"

	"tussock/api"
	"tussock/disk"
	"tussock/table"
)

// checkCommit makes a Commit and asks for what it answers, for what the table has then, and for what is there for good.
func checkCommit(t testing.TB, d *disk.Disk, x *table.Table, what string, e api.Errno, puts ...api.Put) {
	t.Helper()
	before := told(t, x)
	ops := d.Ops()
	if got := x.Commit(puts...); got != e {
		t.Errorf("%s: %d; want %d", what, got, e)
		return
	}
	if e == api.OK {
		before = before.with(puts...)
	} else if d.Ops() != ops {
		t.Errorf("%s: the disk was asked", what)
	}
	wantTold(t, x, before)
	wantList(t, d, before)
	wantList(t, d.Crash(0, 0), before)
}

// numbered are n puts of keys that end with numbers from the first one on, and of a value.
func numbered(first, n int, val string) []api.Put {
	var out []api.Put
	for i := range n {
		out = append(out, put("k"+strconv.Itoa(10000+first+i), val))
	}
	return out
}

// heavy are puts that weigh so much together, all of other keys: as few as may be.
func heavy(weight int) []api.Put {
	const most = 16 + 7 + 4096
	var out []api.Put
	for n := 0; weight > 0; n++ {
		w := weight
		if weight > most {
			w = min(most, weight-16-7)
		}
		out = append(out, put("h"+strconv.Itoa(100000+n), strings.Repeat("v", w-16-7)))
		weight -= w
	}
	return out
}

// P13.2: each put by itself: lengths of keys and values, Gone with a value or without.
func TestForm(t *testing.T) {
	lengths := func(most int) []int { return []int{0, 1, 2, 63, 64, most - 1, most, most + 1, 2 * most} }
	for _, k := range lengths(2048) {
		for _, v := range lengths(4096) {
			for _, is := range []bool{false, true} {
				p := api.Put{Key: strings.Repeat("k", k), Val: strings.Repeat("v", v), Gone: is}
				e := api.OK
				if k > 2048 || v > 4096 || is && v > 0 {
					e = api.ErrTableForm
				}
				what := "a put of " + strconv.Itoa(k) + " and " + strconv.Itoa(v) + " bytes, Gone " + strconv.FormatBool(is)
				d, x := tableOf(t, "a=1")
				checkCommit(t, d, x, what, e, p)
				checkCommit(t, d, x, what+", ahead of others", e, p, put("b", "2"))
				checkCommit(t, d, x, what+", behind others", e, put("c", "3"), gone("a"), p)
			}
		}
	}
}

// P13.2: how many puts there may be.
func TestFormMany(t *testing.T) {
	for _, n := range []int{0, 1, 2, 1999, 2000, 2001, 2002, 10000} {
		e := api.OK
		if n > 2000 {
			e = api.ErrTableForm
		}
		for what, one := range map[string]api.Put{"empty ones": {}, "of one key": put("a", "b"), "Gone": gone("a"), "Gone, of no key": gone("none")} {
			d, x := tableOf(t, "a=1")
			all := slices.Repeat([]api.Put{one}, n)
			checkCommit(t, d, x, strconv.Itoa(n)+" puts, "+what, e, all...)
		}
		d, x := tableOf(t)
		checkCommit(t, d, x, strconv.Itoa(n)+" puts", e, numbered(0, n, "v")...)
	}
}

// texts are puts of one key with so many bytes in keys and values together; if they are Gone, in keys alone.
func texts(bytes int, is bool) []api.Put {
	var out []api.Put
	for bytes > 0 {
		key := strings.Repeat("k", min(bytes, 2048))
		bytes -= len(key)
		val := ""
		if !is {
			val = strings.Repeat("v", min(bytes, 4096))
			bytes -= len(val)
		}
		out = append(out, api.Put{Key: key, Val: val, Gone: is})
	}
	return out
}

// P13.2: how many bytes keys and values of puts may have together: those of keys of Gone ones, and of pairs that do not stay, count.
func TestFormBytes(t *testing.T) {
	const most = 1048576
	for _, more := range []int{-1, 0, 1, 100, most} {
		e := api.OK
		if more > 0 {
			e = api.ErrTableForm
		}
		for _, is := range []bool{false, true} {
			d, x := tableOf(t, "a=1")
			checkCommit(t, d, x, strconv.Itoa(most+more)+" bytes, Gone "+strconv.FormatBool(is), e, texts(most+more, is)...)
			half := append(texts(most/2, true), texts(most/2+more, false)...)
			checkCommit(t, d, x, strconv.Itoa(most+more)+" bytes, half of them Gone", e, half...)
		}
	}
}

// P13.2: 2000 pairs, one Commit or several, and one more.
func TestFullOfPairs(t *testing.T) {
	for _, parts := range [][]int{{2000}, {1000, 1000}, {1, 1999}, {1999, 1}} {
		d, x := tableOf(t)
		first := 0
		for _, n := range parts {
			checkCommit(t, d, x, "some", api.OK, numbered(first, n, "v")...)
			first += n
		}
		if x.Len() != 2000 {
			t.Fatal(x.Len())
		}
		checkCommit(t, d, x, "one more", api.ErrTableFull, put("more", ""))
		checkCommit(t, d, x, "the empty key", api.ErrTableFull, put("", ""))
		checkCommit(t, d, x, "some that are there, and one more", api.ErrTableFull, append(numbered(0, 5, "w"), put("more", ""))...)
		checkCommit(t, d, x, "as many others", api.ErrTableFull, numbered(2000, 2000, "")...)
		checkCommit(t, d, x, "those that are there", api.OK, numbered(0, 2000, "w")...)
		checkCommit(t, d, x, "one for another one", api.OK, put("more", "1"), gone("k10007"))
		checkCommit(t, d, x, "one more", api.ErrTableFull, put("k10007", ""))
		checkCommit(t, d, x, "one less", api.OK, gone("more"))
		checkCommit(t, d, x, "as many as there may", api.OK, put("k10007", ""))
		y := open(t, d.Crash(0, 0))
		checkCommit(t, d.Crash(0, 0), y, "opened, one more", api.ErrTableFull, put("more", ""))
	}
}

// P13.2: 2001 pairs of fewer puts; with room for all.
func TestFullOfPairsAtOnce(t *testing.T) {
	d, x := tableOf(t, "a=1")
	checkCommit(t, d, x, "2000 puts beside one pair", api.ErrTableFull, numbered(0, 2000, "")...)
	checkCommit(t, d, x, "one of them for the pair", api.OK, append(numbered(0, 1999, ""), put("a", "2"))...)
	checkCommit(t, d, x, "gone, and others", api.OK, append([]api.Put{gone("a")}, numbered(1, 1999, "v")...)...)
	if x.Len() != 2000 {
		t.Error("Len:", x.Len())
	}
}

// P13.2: a weight of MaxTable, and one more.
func TestFullOfWeight(t *testing.T) {
	const most = 1048576
	for _, more := range []int{-1, 0, 1, 2, 16} {
		e := api.OK
		if more > 0 {
			e = api.ErrTableFull
		}
		d, x := tableOf(t)
		all := heavy(most + more)
		if n := list(nil).with(all...).weight(); n != most+more {
			t.Fatalf("the puts weigh %d; want %d", n, most+more)
		}
		checkCommit(t, d, x, "all at once, and "+strconv.Itoa(more), e, all...)
	}
	d, x := tableOf(t)
	checkCommit(t, d, x, "all but 20", api.OK, heavy(most-20)...)
	checkCommit(t, d, x, "21 more", api.ErrTableFull, put("abc", "de"))
	checkCommit(t, d, x, "21 more, of a key", api.ErrTableFull, put("abcde", ""))
	checkCommit(t, d, x, "20 more", api.OK, put("abc", "d"))
	checkCommit(t, d, x, "a value that is longer", api.ErrTableFull, put("abc", "dd"))
	checkCommit(t, d, x, "an empty pair", api.ErrTableFull, put("", ""))
	checkCommit(t, d, x, "another value", api.OK, put("abc", "e"))
	checkCommit(t, d, x, "a shorter one", api.OK, put("abc", ""))
	checkCommit(t, d, x, "two longer", api.ErrTableFull, put("abc", "ee"))
	checkCommit(t, d, x, "gone", api.OK, gone("abc"))
	checkCommit(t, d, x, "20 more again", api.OK, put("", "dddd"))
	y := d.Crash(0, 0)
	checkCommit(t, y, open(t, y), "opened, one more", api.ErrTableFull, put("", "ddddd"))
	y = d.Crash(0, 0)
	checkCommit(t, y, open(t, y), "opened, others", api.OK, put("", ""), put("h100000", ""))
}

// P13.2: puts that pass a limit meanwhile, but not behind all of them.
func TestFullMeanwhile(t *testing.T) {
	d, x := tableOf(t)
	checkCommit(t, d, x, "2000", api.OK, numbered(0, 2000, "")...)
	checkCommit(t, d, x, "more, and gone", api.OK, put("a", ""), put("b", ""), gone("a"), gone("b"))
	checkCommit(t, d, x, "more, others gone", api.OK, put("a", ""), put("b", ""), gone("k10000"), gone("k10001"))
	checkCommit(t, d, x, "gone, and laid again, and one more", api.ErrTableFull, gone("a"), put("a", ""), put("c", ""))
	checkCommit(t, d, x, "less meanwhile, too many behind all", api.ErrTableFull, gone("a"), gone("b"), put("b", ""), put("a", ""), put("c", ""))
	d, x = tableOf(t)
	checkCommit(t, d, x, "just the weight", api.OK, heavy(1048576)...)
	great := strings.Repeat("g", 4096)
	checkCommit(t, d, x, "heavier meanwhile", api.OK, put("g", great), put("g2", great), gone("g"), gone("g2"))
	checkCommit(t, d, x, "heavier meanwhile, others gone", api.OK, put("g", great), gone("h100000"), gone("h100001"))
	checkCommit(t, d, x, "lighter meanwhile", api.ErrTableFull, gone("g"), gone("h100002"), put("g", great), put("g2", great), put("h100002", great), put("g3", ""))
	checkCommit(t, d, x, "a heavy one, then a light one of its key", api.OK, put("l", great), put("l", great), put("l", ""))
}

// P13.2: puts are done in order.
func TestOrderOfPuts(t *testing.T) {
	for _, c := range []struct{ before, puts, after string }{
		{"", "a=1 a=2 a=3", "a=3"},
		{"", "a=1 -a", ""},
		{"", "a=1 -a a=2", "a=2"},
		{"", "-a a=1", "a=1"},
		{"", "-a", ""},
		{"", "-a -a", ""},
		{"a=1", "-a", ""},
		{"a=1", "-a -a", ""},
		{"a=1", "-a a=1", "a=1"},
		{"a=1", "a=1", "a=1"},
		{"a=1", "a=", "a="},
		{"a=1", "a=2 a=1", "a=1"},
		{"a=1 b=2", "-a b=3 a=4 -b", "a=4"},
		{"a=1 b=2", "b=3 -a -b a=5 b=6 -a", "b=6"},
		{"a=1", "ab=2 -a", "ab=2"},
		{"a=1 ab=2", "-a", "ab=2"},
		{"a=1 ab=2", "-ab", "a=1"},
		{"a=1", "-none", "a=1"},
		{"a=1", "-ab -b", "a=1"},
		{"a=1 b=2 c=3", "-c -a -b", ""},
	} {
		d, x := tableOf(t, c.before)
		checkCommit(t, d, x, c.puts, api.OK, puts(c.puts)...)
		wantTold(t, x, has(c.after))
		wantGood(t, d, has(c.after))
		d, x = reopened(t, d.Crash(0, 0))
		checkCommit(t, d, x, "opened, again "+c.puts, api.OK, puts(c.puts)...)
	}
}

// P13.2: which error comes first where several could.
func TestFirstError(t *testing.T) {
	long := put(strings.Repeat("k", 2049), "")
	full := append(numbered(0, 1999, ""), put("x", ""), put("y", ""))[1:]
	for _, s := range []string{"on", "full", "failing", "off"} {
		for _, sure := range []bool{false, true} {
			d, x := tableOf(t, "a=1")
			if !sure {
				x = open(t, d)
			}
			own := api.OK
			switch s {
			case "full":
				d.SetRoom(0)
				own = api.ErrDiskFull
			case "failing":
				d.FailAt(d.Ops())
				own = api.ErrDiskIO
			case "off":
				d.CutAt(d.Ops())
				own = api.ErrDiskOff
			}
			want(t, s+": a wrong put and too many pairs", x.Commit(append(slices.Clone(full[1:]), long)...), api.ErrTableForm)
			want(t, s+": too many puts, and pairs", x.Commit(append(slices.Clone(full), put("z", ""))...), api.ErrTableForm)
			want(t, s+": a wrong put", x.Commit(long), api.ErrTableForm)
			want(t, s+": too many pairs", x.Commit(full...), api.ErrTableFull)
			want(t, s+": no puts", x.Commit(), api.OK)
			want(t, s+": a right put", x.Commit(put("b", "2")), own)
		}
	}
}

// P13.4: a Commit of no puts does nothing, in each state, and whatever the disk would answer.
func TestNoPuts(t *testing.T) {
	for _, s := range states() {
		d, x := s.make(t)
		before, loose, ops := snapshot(d), d.Loose(), d.Ops()
		d.FailAt(ops)
		want(t, s.name, x.Commit(), api.OK)
		d.CutAt(ops)
		d.SetRoom(0)
		want(t, s.name, x.Commit([]api.Put{}...), api.OK)
		if d.Ops() != ops || d.Loose() != loose || snapshot(d) != before {
			t.Errorf("%s: a Commit of no puts does something", s.name)
		}
		wantTold(t, x, s.has)
	}
}

// P13.2, P13.4: puts that change nothing are still done for good: a disk that is off is told.
func TestPutsThatChangeNothing(t *testing.T) {
	for _, s := range states() {
		for _, c := range []call{commit("-none"), {"the same", s.same()}} {
			if len(c.puts) == 0 {
				continue
			}
			d, x := s.make(t)
			want(t, s.name+": "+c.name, c.do(x), api.OK)
			wantTold(t, x, s.has)
			wantGood(t, d, s.has)
			d.CutAt(d.Ops())
			want(t, s.name+": "+c.name+", off", c.do(x), api.ErrDiskOff)
		}
	}
}

// same are puts that lay what is there already.
func (s state) same() []api.Put {
	var out []api.Put
	for _, p := range s.has {
		out = append(out, put(p.Key, p.Val))
	}
	return out
}

// P13.2: each call in each state, then each call again, by the same table and by one opened anew.
func TestCalls(t *testing.T) {
	for _, s := range states() {
		for _, c := range calls() {
			for _, next := range calls() {
				d, x := s.make(t)
				checkCommit(t, d, x, s.name+": "+c.name, api.OK, c.puts...)
				checkCommit(t, d, x, s.name+": "+c.name+", "+next.name, api.OK, next.puts...)
				y := d.Crash(0, 0)
				checkCommit(t, y, open(t, y), s.name+": opened, "+next.name, api.OK, next.puts...)
				wantTold(t, x, next.list(c.list(s.has)))
			}
			d, x := s.make(t)
			want(t, c.name, c.do(x), api.OK)
			wantGood(t, d, c.list(s.has))
		}
	}
}
