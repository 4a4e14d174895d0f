package disk_test

import (
	"math/rand"
	"strings"
	"testing"

	"tussock/api"
	"tussock/disk"
)

// crashes goes through all that a crash of a disk may leave.
func crashes(d *disk.Disk, see func(keep, torn int, x *disk.Disk)) {
	for keep := range d.Loose() + 1 {
		for torn := range 6 {
			see(keep, torn, d.Crash(keep, torn))
		}
	}
}

// busy does something to the files b, c and d, and to kept but what would take away its bytes or its name.
func busy(d *disk.Disk, r *rand.Rand) {
	names := []string{"b", "c", "d"}
	name, other := names[r.Intn(3)], names[r.Intn(3)]
	switch r.Intn(11) {
	case 0, 1, 2:
		d.Append(name, []byte("123456")[:r.Intn(6)])
	case 3:
		d.Rename(name, other)
	case 4:
		d.Remove(name)
	case 5:
		d.Sync(name)
	case 6:
		d.SyncDir()
	case 7:
		d.FailAt(d.Ops())
		d.SyncDir()
	case 8:
		d.Append("kept", []byte("more"))
	case 9:
		d.Sync("kept")
	case 10:
		d.FailAt(d.Ops())
		d.Sync("kept")
	}
}

// What follows: what was synced, with the directory synced behind it, is there behind any crash.
func TestSyncedIsKept(t *testing.T) {
	for seed := range int64(60) {
		r := rand.New(rand.NewSource(seed))
		d := newDisk(t, 10000)
		sure(t, d, "kept", "xyz")
		for range 25 {
			busy(d, r)
			crashes(d, func(keep, torn int, x *disk.Disk) {
				if b, e := x.Read("kept"); e != api.OK || !strings.HasPrefix(string(b), "xyz") {
					t.Fatalf("seed %d, Crash(%d, %d): %q, %d", seed, keep, torn, b, e)
				}
			})
		}
	}
}

// What follows: what was synced is still there behind crashes of crashes.
func TestSyncedIsKeptThroughCrashes(t *testing.T) {
	r := rand.New(rand.NewSource(7))
	d := newDisk(t, 1<<20)
	sure(t, d, "kept", "xyz")
	for range 200 {
		for range r.Intn(6) {
			busy(d, r)
		}
		d = d.Crash(r.Intn(d.Loose()+2)-1, r.Intn(5)-1)
		if b, e := d.Read("kept"); e != api.OK || !strings.HasPrefix(string(b), "xyz") {
			t.Fatalf("%q, %d", b, e)
		}
	}
}

// What follows: without the directory synced behind it, a file may be gone; who removes or renames it may lose it.
func TestNotSyncedMayGo(t *testing.T) {
	d := newDisk(t, 20)
	want(t, "SyncDir", d.SyncDir(), api.OK)
	add(t, d, "a", "xyz")
	want(t, "Sync", d.Sync("a"), api.OK)
	wantNames(t, d.Crash(0, 0))
	sure(t, d, "b", "uv")
	want(t, "Rename", d.Rename("a", "b"), api.OK)
	wantTold(t, d.Crash(1, 0), "b=xyz ")
	want(t, "Remove", d.Remove("b"), api.OK)
	wantTold(t, d.Crash(2, 0), "")
}

// What follows: behind a crash each file has a beginning of its bytes. Each file's first byte, 1 to 9, tells which it is; bytes count on.
func TestFilesKeepABeginning(t *testing.T) {
	for seed := range int64(60) {
		r := rand.New(rand.NewSource(seed))
		d := newDisk(t, 10000)
		for i := range 8 {
			want(t, "Append", d.Append(string([]byte{'a' + byte(i)}), []byte{byte(i)}), api.OK)
		}
		want(t, "SyncDir", d.SyncDir(), api.OK)
		for range 30 {
			grow(d, r)
		}
		crashes(d, func(keep, torn int, x *disk.Disk) {
			for _, name := range x.Names() {
				b, _ := x.Read(name)
				for i := range b {
					if i > 0 && b[i] != b[i-1]+8 {
						t.Fatalf("seed %d, Crash(%d, %d): %s has %v", seed, keep, torn, name, b)
					}
				}
			}
		})
	}
}

// grow appends bytes that count on, each by eight more than the one ahead of it, or moves names, or syncs.
func grow(d *disk.Disk, r *rand.Rand) {
	names := d.Names()
	if len(names) == 0 {
		return
	}
	name, other := names[r.Intn(len(names))], names[r.Intn(len(names))]
	if b, _ := d.Read(name); len(b) > 0 && r.Intn(3) > 0 {
		last := b[len(b)-1]
		d.Append(name, []byte{last + 8, last + 16, last + 24}[:1+r.Intn(3)])
		return
	}
	switch r.Intn(6) {
	case 0:
		d.Rename(name, other)
	case 1:
		d.Rename(name, "z")
	case 2:
		d.SyncDir()
	default:
		d.Sync(name)
	}
}

// What follows: a crash with all acts kept is the disk as it is.
func TestCrashWithAllIsTheDisk(t *testing.T) {
	for seed := range int64(100) {
		r := rand.New(rand.NewSource(seed))
		d := newDisk(t, 10000)
		for range 40 {
			busy(d, r)
			x := d.Crash(d.Loose(), 0)
			wantNames(t, x, d.Names()...)
			for _, name := range d.Names() {
				b, e := d.Read(name)
				want(t, "Read", e, api.OK)
				wantText(t, x, name, string(b))
			}
		}
	}
}

// What follows: a failing operation leaves nothing that was not sure, of what it would have made sure.
func TestFailingSyncsLeaveWhatIsSure(t *testing.T) {
	for seed := range int64(100) {
		r := rand.New(rand.NewSource(seed))
		d := newDisk(t, 10000)
		for range 40 {
			busy(d, r)
			names := strings.Join(d.Crash(0, 0).Names(), " ")
			d.FailAt(d.Ops())
			want(t, "SyncDir", d.SyncDir(), api.ErrDiskIO)
			if got := strings.Join(d.Names(), " "); got != names {
				t.Fatalf("seed %d: %s; want %s", seed, got, names)
			}
			for _, name := range d.Names() {
				b, _ := d.Crash(0, 0).Read(name)
				d.FailAt(d.Ops())
				want(t, "Sync", d.Sync(name), api.ErrDiskIO)
				wantText(t, d, name, string(b))
			}
			if r.Intn(3) == 0 {
				d.SyncDir()
			}
		}
	}
}
