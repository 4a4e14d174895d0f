package wal_test

import (
	"slices"
	"strings"
	"testing"

	"tussock/api"
	"tussock/disk"
	"tussock/wal"
)

func newDisk(t testing.TB, room int) *disk.Disk {
	t.Helper()
	d, e := disk.New(room)
	if d == nil || e != api.OK {
		t.Fatalf("disk.New(%d): %v, %d", room, d, e)
	}
	return d
}

func want(t testing.TB, call string, got, want api.Errno) {
	t.Helper()
	if got != want {
		t.Errorf("%s: %d; want %d", call, got, want)
	}
}

// list is what a log has; its groups are written as texts, records with commas between: "a,b" is a group of two records, "" one of none, "," one of two empty ones. No record here is alone and empty.
type list []string

func (x list) plus(group string) list { return append(slices.Clone(x), group) }

func (x list) is(y list) bool { return slices.Equal(x, y) }

// records are those of a group that is written as a text.
func records(group string) []string {
	if group == "" {
		return nil
	}
	return strings.Split(group, ",")
}

func told(groups [][]string) list {
	var x list
	for _, g := range groups {
		x = append(x, strings.Join(g, ","))
	}
	return x
}

// open asks for a log that must be there, or be none yet.
func open(t testing.TB, d *disk.Disk, name string) *wal.Log {
	t.Helper()
	l, _, e := wal.Open(d, name)
	if l == nil || e != api.OK {
		t.Fatalf("Open(%s): %v, %d", name, l, e)
	}
	return l
}

// logOf is a log that has these groups, and its disk.
func logOf(t testing.TB, groups ...string) (*disk.Disk, *wal.Log) {
	t.Helper()
	d := newDisk(t, 100000)
	l := open(t, d, "l")
	for _, g := range groups {
		want(t, "Append", l.Append(records(g)...), api.OK)
	}
	return d, l
}

// now is the disk as it is, in a copy: with the power on, none that fails, and operations of its own.
func now(d *disk.Disk) *disk.Disk { return d.Crash(d.Loose(), 0) }

// read answers what a log has on a disk as it is, whose operations stay as they are.
func read(t testing.TB, d *disk.Disk, name string) list {
	t.Helper()
	_, groups, e := wal.Open(now(d), name)
	if e != api.OK {
		t.Errorf("Open(%s): %d", name, e)
	}
	return told(groups)
}

func wantList(t testing.TB, d *disk.Disk, groups ...string) {
	t.Helper()
	if got := read(t, d, "l"); !got.is(groups) {
		t.Errorf("has %q; want %q", got, groups)
	}
}

// wantGood asks for groups now, and behind each crash.
func wantGood(t testing.TB, d *disk.Disk, groups ...string) {
	t.Helper()
	wantList(t, d, groups...)
	eachCrash(d, func(x *disk.Disk) { wantList(t, x, groups...) })
}

// eachCrash goes through what may be left behind a crash: each number of acts, and each number of bytes of a group that is short.
func eachCrash(d *disk.Disk, body func(x *disk.Disk)) {
	for keep := range d.Loose() + 1 {
		torn := 0
		for before := -1; torn < 200; torn++ {
			x := d.Crash(keep, torn)
			if n := bytesOf(x); n != before { // else there are no more bytes to be torn off
				body(x)
				before = n
			} else {
				break
			}
		}
	}
}

func bytesOf(d *disk.Disk) int {
	n := 0
	for _, name := range d.Names() {
		n += d.Size(name)
	}
	return n
}

// filesOf are the names that a log may have.
func filesOf(d *disk.Disk, log string) []string {
	return slices.DeleteFunc(d.Names(), func(name string) bool { return name != log && !strings.HasPrefix(name, log+"~") })
}

// call is Append or Reset.
type call struct {
	name string
	do   func(l *wal.Log, records ...string) api.Errno
	list func(before list, group string) list
}

func calls() []call {
	return []call{
		{"Append", (*wal.Log).Append, list.plus},
		{"Reset", (*wal.Log).Reset, func(_ list, group string) list { return list{group} }},
	}
}

// state is a disk with a log that was opened on it.
type state struct {
	name string
	make func(t testing.TB) (*disk.Disk, *wal.Log)
	has  list
}

func reopened(t testing.TB, d *disk.Disk) (*disk.Disk, *wal.Log) {
	t.Helper()
	return d, open(t, d, "l")
}

// cutAt is what a crash leaves with the power gone at the call's operation op, counted from 0 on.
func cutAt(t testing.TB, d *disk.Disk, op, keep, torn int, do func() api.Errno) *disk.Disk {
	t.Helper()
	d.CutAt(d.Ops() + op)
	want(t, "with the power gone", do(), api.ErrDiskOff)
	return d.Crash(keep, torn)
}

// lastOp is the last operation of a call, counted from 0 on, as the same call on the same disk shows it.
func lastOp(t testing.TB, make func(t testing.TB) (*disk.Disk, *wal.Log), c call, group string) int {
	t.Helper()
	d, l := make(t)
	before := d.Ops()
	want(t, c.name, c.do(l, records(group)...), api.OK)
	return d.Ops() - before - 1
}

// states are the ones that a log may be in, between calls.
func states() []state {
	two := func(t testing.TB) (*disk.Disk, *wal.Log) { return logOf(t, "a,b", "c") }
	all := []state{
		{"new", func(t testing.TB) (*disk.Disk, *wal.Log) { return logOf(t) }, nil},
		{"used", two, list{"a,b", "c"}},
		{"reset", func(t testing.TB) (*disk.Disk, *wal.Log) {
			d, l := two(t)
			want(t, "Reset", l.Reset("d"), api.OK)
			return d, l
		}, list{"d"}},
		{"opened", func(t testing.TB) (*disk.Disk, *wal.Log) {
			d, _ := two(t)
			return reopened(t, d)
		}, list{"a,b", "c"}},
		{"behind a crash", func(t testing.TB) (*disk.Disk, *wal.Log) {
			d, _ := two(t)
			return reopened(t, d.Crash(0, 0))
		}, list{"a,b", "c"}},
		{"behind a failure", func(t testing.TB) (*disk.Disk, *wal.Log) {
			d, l := two(t)
			d.FailAt(d.Ops()+2, d.Ops()+3)
			want(t, "Reset", l.Reset("d"), api.ErrDiskIO)
			return d, l
		}, list{"a,b", "c"}},
		{"beside another one's loose acts", func(t testing.TB) (*disk.Disk, *wal.Log) {
			d, _ := two(t)
			want(t, "Append", d.Append("other", []byte("xyz")), api.OK)
			return reopened(t, d)
		}, list{"a,b", "c"}},
	}
	for _, torn := range []int{1, 4, 7, 8, 11, 12, 13, 20, 21, 22, 23, 24, 25} {
		all = append(all, state{"torn", func(t testing.TB) (*disk.Disk, *wal.Log) {
			d, l := two(t)
			return reopened(t, cutAt(t, d, 1, 0, torn, func() api.Errno { return l.Append("torn", "off!") }))
		}, list{"a,b", "c"}})
	}
	for op := range 4 {
		for keep := range 2 {
			all = append(all, state{"behind a Reset cut off", func(t testing.TB) (*disk.Disk, *wal.Log) {
				d, l := two(t)
				return reopened(t, cutAt(t, d, op, keep, 5, func() api.Errno { return l.Reset("d") }))
			}, list{"a,b", "c"}})
		}
	}
	return all
}
