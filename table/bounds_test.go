package table_test

import (
	"strconv"
	"strings"
	"testing"

	"tussock/api"
	"tussock/disk"
	"tussock/table"
)

const mostOps = 30

// meter holds a table's calls against their bounds, on a disk that answers no error.
type meter struct {
	t        testing.TB
	d        *disk.Disk
	x        *table.Table
	has      list
	greatest int // weight that there was
}

func newMeter(t testing.TB) *meter {
	d, x := tableOf(t)
	return &meter{t: t, d: d, x: x}
}

// mostBytes is how many bytes a table's files may have behind a Commit, with the greatest weight that there was.
func mostBytes(greatest int, last []api.Put) int {
	n := 20000 + 4*greatest + 30*len(last)
	for _, p := range last {
		n += len(p.Key) + len(p.Val)
	}
	return n
}

// commit makes a Commit, and holds what it takes, and leaves, against the bounds.
func (m *meter) commit(puts ...api.Put) {
	m.t.Helper()
	ops := m.d.Ops()
	want(m.t, "Commit", m.x.Commit(puts...), api.OK)
	if n := m.d.Ops() - ops; n > mostOps || len(puts) == 0 && n > 0 {
		m.t.Errorf("a Commit of %d puts takes %d operations", len(puts), n)
	}
	m.has = m.has.with(puts...)
	m.greatest = max(m.greatest, m.has.weight())
	if n, most := bytesOfTable(m.d, "t"), mostBytes(m.greatest, puts); n > most {
		m.t.Fatalf("%d bytes, of pairs of %d, the greatest weight %d; at most %d", n, m.has.weight(), m.greatest, most)
	}
	if n := bytesOfTable(m.d.Crash(0, 0), "t"); n > mostBytes(m.greatest, puts) {
		m.t.Fatalf("%d bytes behind a crash", n)
	}
}

// reopen opens the table again.
func (m *meter) reopen() {
	m.t.Helper()
	ops := m.d.Ops()
	m.x = open(m.t, m.d)
	if n := m.d.Ops() - ops; n > mostOps {
		m.t.Errorf("Open takes %d operations", n)
	}
	wantTold(m.t, m.x, m.has)
}

// P13.5: many Commits of small puts: one pair again and again, and pairs that come and go.
func TestBoundsOfSmallPuts(t *testing.T) {
	for name, puts := range map[string]func(i int) []api.Put{
		"one pair":           func(i int) []api.Put { return []api.Put{put("k", strconv.Itoa(i))} },
		"an empty pair":      func(i int) []api.Put { return []api.Put{put("", "")} },
		"a key that is none": func(i int) []api.Put { return []api.Put{gone("none")} },
		"on and off": func(i int) []api.Put {
			return []api.Put{{Key: "k", Gone: i%2 == 1}}
		},
		"few keys": func(i int) []api.Put {
			return []api.Put{put("k"+strconv.Itoa(i%10), "v"), gone("k" + strconv.Itoa(i*i%10))}
		},
		"many of one key": func(i int) []api.Put { return append(texts(i%300, false), puts("a=1 -a -k")...) },
	} {
		m := newMeter(t)
		for i := range 4000 {
			m.commit(puts(i)...)
			if i%500 == 499 {
				m.reopen()
			}
		}
		if t.Failed() {
			t.Fatal(name)
		}
	}
}

// P13.5: many Commits of great puts, that stay or not.
func TestBoundsOfGreatPuts(t *testing.T) {
	val := strings.Repeat("v", 4096)
	var many, long []api.Put
	for i := range 120 {
		many = append(many, put("k", val[:i]), put("k"+strconv.Itoa(i), val), put("k"+strconv.Itoa(i), ""))
		long = append(long, put(strings.Repeat("l", 2048-i), val), gone(strings.Repeat("l", 2048-i)))
	}
	m := newMeter(t)
	for i := range 60 {
		m.commit(put("k", val))
		m.commit(many...)
		m.commit(long...)
		m.commit(texts(1048576, i%2 == 0)...)
		m.commit(heavy(100000 * (i%10 + 1))...)
		m.commit(goneOf(heavy(100000 * (i % 7)))...)
		if i%10 == 9 {
			m.reopen()
		}
	}
}

// P13.5: 2000 puts of as few bytes as may be, many times.
func TestBoundsOfManyPuts(t *testing.T) {
	m := newMeter(t)
	many := numbered(0, 2000, "")
	for i := range 8 {
		m.commit(many...)
		m.commit(goneOf(many[:i*200])...)
		m.commit(put("k10000", "x"))
	}
	m.reopen()
	m.commit(goneOf(many)...)
	for range 100 {
		m.commit(make([]api.Put, 2000)...)
	}
}

// P13.5: a table that grows pair by pair, and shrinks again.
func TestBoundsOfGrowing(t *testing.T) {
	m := newMeter(t)
	for i := range 2000 {
		m.commit(put("k"+strconv.Itoa(10000+i), strings.Repeat("g", i%40)))
	}
	m.reopen()
	for i := range 2000 {
		m.commit(gone("k" + strconv.Itoa(10000+i)))
	}
	m.reopen()
}

// P13.5: once the greatest weight is told: behind a great table that went, the files stay within its bound; a table that was opened then, and knows of none, lets them have no more.
func TestBoundsOfShrinking(t *testing.T) {
	m := newMeter(t)
	for round := range 3 {
		m.commit(append(heavy(1048576), gone("k"))...)
		m.commit(goneOf(heavy(1048576))...)
		m.reopen()
		m.greatest = 0 // of what there was since
		for i := range 300 {
			m.commit(put("k", strings.Repeat("v", (i+round)%1000)))
		}
	}
}

// P13.5: each call in each state that no error led to, and behind crashes: the operations, and the bytes from the next Commit on.
func TestBoundsInStates(t *testing.T) {
	for _, s := range states() {
		for _, c := range calls() {
			d, x := s.make(t)
			ops := d.Ops()
			want(t, c.name, c.do(x), api.OK)
			if n := d.Ops() - ops; n > mostOps {
				t.Errorf("%s: %s takes %d operations", s.name, c.name, n)
			}
			greatest := max(s.has.weight(), c.list(s.has).weight())
			if n := bytesOfTable(d, "t"); n > mostBytes(greatest, c.puts) {
				t.Errorf("%s: %d bytes behind %s", s.name, n, c.name)
			}
		}
	}
}

// P13.5: calls take no more operations when some of them fail.
func TestOperationsOfFailingCalls(t *testing.T) {
	for _, s := range states() {
		for _, c := range calls() {
			for at := range 8 {
				d, x := s.make(t)
				for i := at; i < 2*mostOps; i++ {
					d.FailAt(d.Ops() + i)
				}
				before := d.Ops()
				c.do(x)
				if n := d.Ops() - before; n > mostOps {
					t.Errorf("%s: failing from %d on, %s takes %d operations", s.name, at, c.name, n)
				}
				before = d.Ops()
				table.Open(d, "t")
				if n := d.Ops() - before; n > mostOps {
					t.Errorf("%s: Open takes %d operations", s.name, n)
				}
			}
		}
	}
}

// P13.5: Open takes no more operations for a table of many Commits.
func TestOpenOfManyCommits(t *testing.T) {
	d, x := tableOf(t)
	want(t, "Commit", x.Commit(heavy(1000000)...), api.OK)
	now := list(nil).with(heavy(1000000)...)
	for i := range 3000 {
		p := put("k", strconv.Itoa(i))
		want(t, "Commit", x.Commit(p), api.OK)
		now = now.with(p)
	}
	y := d.Crash(0, 0)
	wantTold(t, open(t, y), now)
	if y.Ops() > mostOps {
		t.Errorf("Open takes %d operations", y.Ops())
	}
}

// P13.5: what a crash left takes up nothing any more behind the next Commit.
func TestNothingIsLeft(t *testing.T) {
	for _, s := range states() {
		d, x := s.make(t)
		want(t, "Commit", x.Commit(put("a", "1")), api.OK)
		want(t, "Commit of great puts", x.Commit(great()...), api.OK)
		if n := bytesOfTable(d, "t"); n > 1000 {
			t.Errorf("%s: %d bytes in %q", s.name, n, filesOf(d, "t"))
		}
	}
}

// P13.5: what a crash leaves has room within the bounds of the Commit that was under way, too.
func TestBoundsBehindCrashes(t *testing.T) {
	all := append(calls(), call{"heavy", heavy(300000)}, call{"gone", goneOf(heavy(300000))}, call{"again", heavy(280000)})
	m := newMeter(t)
	for i := range len(all) {
		for _, c := range all {
			for at, e := 0, api.ErrDiskOff; e != api.OK; at++ {
				d := m.d.Crash(0, 0)
				x := open(t, d)
				if i%2 == 0 {
					want(t, "Commit", x.Commit(put("a", "1")), api.OK)
				}
				d.CutAt(d.Ops() + at)
				e = c.do(x)
				for keep := range d.Loose() + 1 {
					if n := bytesOfTable(d.Crash(keep, ample), "t"); n > mostBytes(m.greatest, c.puts) {
						t.Fatalf("%s cut at %d: %d bytes, the greatest weight %d", c.name, at, n, m.greatest)
					}
				}
			}
		}
		m.commit(all[i].puts...)
		m.commit(put("a", strings.Repeat("v", i)))
	}
}
