package disk_test

import (
	"slices"
	"strings"
	"testing"

	"tussock/api"
	"tussock/disk"
)

func newDisk(t *testing.T, room int) *disk.Disk {
	t.Helper()
	d, e := disk.New(room)
	if d == nil || e != api.OK {
		t.Fatalf("New(%d): %v, %d", room, d, e)
	}
	return d
}

func want(t *testing.T, call string, got, want api.Errno) {
	t.Helper()
	if got != want {
		t.Errorf("%s: %d; want %d", call, got, want)
	}
}

// add appends to a file; sure appends, and syncs file and directory.
func add(t *testing.T, d *disk.Disk, name, text string) {
	t.Helper()
	want(t, "Append "+name, d.Append(name, []byte(text)), api.OK)
}

func sure(t *testing.T, d *disk.Disk, name, text string) {
	t.Helper()
	add(t, d, name, text)
	want(t, "Sync "+name, d.Sync(name), api.OK)
	want(t, "SyncDir", d.SyncDir(), api.OK)
}

func wantText(t *testing.T, d *disk.Disk, name, text string) {
	t.Helper()
	if b, e := d.Read(name); string(b) != text || e != api.OK {
		t.Errorf("Read(%s): %q, %d; want %q, OK", name, b, e, text)
	}
}

func wantNames(t *testing.T, d *disk.Disk, names ...string) {
	t.Helper()
	if got := d.Names(); !slices.Equal(got, names) {
		t.Errorf("Names: %q; want %q", got, names)
	}
}

func wantLoose(t *testing.T, d *disk.Disk, n int) {
	t.Helper()
	if got := d.Loose(); got != n {
		t.Errorf("Loose: %d; want %d", got, n)
	}
}

func wantOps(t *testing.T, d *disk.Disk, n int) {
	t.Helper()
	if got := d.Ops(); got != n {
		t.Errorf("Ops: %d; want %d", got, n)
	}
}

// told is all names and bytes of a disk, read from another one that has the same, so that this one's operations stay as they are.
func told(t *testing.T, d *disk.Disk) string {
	t.Helper()
	x := d.Crash(d.Loose(), 0)
	var s strings.Builder
	for _, name := range x.Names() {
		b, e := x.Read(name)
		if e != api.OK {
			t.Errorf("Read(%s) behind a crash: %d", name, e)
		}
		s.WriteString(name + "=" + string(b) + " ")
	}
	return s.String()
}

// wantTold asks for names and bytes, as "a=xyz b= ".
func wantTold(t *testing.T, d *disk.Disk, all string) {
	t.Helper()
	if got := told(t, d); got != all {
		t.Errorf("has %q; want %q", got, all)
	}
}

// operation is one of the seven, on a file named a that has the bytes xyz.
type operation struct {
	name string
	do   func(d *disk.Disk) api.Errno
}

func operations() []operation {
	return []operation{
		{"Append", func(d *disk.Disk) api.Errno { return d.Append("a", []byte("w")) }},
		{"Read", func(d *disk.Disk) api.Errno { _, e := d.Read("a"); return e }},
		{"ReadAt", func(d *disk.Disk) api.Errno { _, e := d.ReadAt("a", 1, 1); return e }},
		{"Sync", func(d *disk.Disk) api.Errno { return d.Sync("a") }},
		{"SyncDir", func(d *disk.Disk) api.Errno { return d.SyncDir() }},
		{"Rename", func(d *disk.Disk) api.Errno { return d.Rename("a", "b") }},
		{"Remove", func(d *disk.Disk) api.Errno { return d.Remove("a") }},
	}
}

// byName is one of the operations that take a name.
type byName struct {
	name string
	do   func(d *disk.Disk, name string) api.Errno
}

func allByName() []byName {
	return append(readersByName(),
		byName{"Append", func(d *disk.Disk, n string) api.Errno { return d.Append(n, []byte("w")) }},
		byName{"Rename to", func(d *disk.Disk, n string) api.Errno { return d.Rename("a", n) }})
}

// readersByName are those of them that ask for a file that is there.
func readersByName() []byName {
	return []byName{
		{"Read", func(d *disk.Disk, n string) api.Errno { _, e := d.Read(n); return e }},
		{"ReadAt", func(d *disk.Disk, n string) api.Errno { _, e := d.ReadAt(n, 0, 0); return e }},
		{"Sync", func(d *disk.Disk, n string) api.Errno { return d.Sync(n) }},
		{"Rename from", func(d *disk.Disk, n string) api.Errno { return d.Rename(n, "b") }},
		{"Remove", func(d *disk.Disk, n string) api.Errno { return d.Remove(n) }},
	}
}
