package disk_test

import (
	"bytes"
	"math"
	"runtime"
	"strings"
	"testing"

	"tussock/api"
	"tussock/disk"
)

// P3.2: a name has 1 to 80 bytes, each from 33 to 126; what is none is refused by all that take one.
func TestNamesThatAreNone(t *testing.T) {
	bad := []string{"", strings.Repeat("n", 81), strings.Repeat("n", 1000), " ", "\x20", "\x7F", "\x00", "\xFF", "é", "a ", " a", "a\nb", "a\x7F", strings.Repeat("n", 79) + " "}
	for c := range 256 {
		if c < 33 || c > 126 {
			bad = append(bad, string([]byte{byte(c)}), string([]byte{'a', byte(c), 'a'}))
		}
	}
	for _, op := range allByName() {
		for _, name := range bad {
			d := newDisk(t, 10)
			add(t, d, "a", "xyz")
			want(t, op.name, op.do(d, name), api.ErrDiskName)
			wantTold(t, d, "a=xyz ")
			wantLoose(t, d, 2)
			wantOps(t, d, 2)
		}
	}
}

// P3.2: every other text is a name.
func TestNamesThatAreRight(t *testing.T) {
	good := []string{"a", strings.Repeat("n", 79), strings.Repeat("n", 80), "!", "~", "a/b", "..", ".", "\x21\x7E", strings.Repeat("~", 80)}
	for c := 33; c <= 126; c++ {
		good = append(good, string([]byte{byte(c)}))
	}
	for _, name := range good {
		d := newDisk(t, 10)
		add(t, d, name, "xyz")
		wantText(t, d, name, "xyz")
		want(t, "Sync", d.Sync(name), api.OK)
		want(t, "Rename", d.Rename(name, name+""), api.OK)
		want(t, "Rename", d.Rename(name, "other"), api.OK)
		want(t, "Rename back", d.Rename("other", name), api.OK)
		wantNames(t, d, name)
		want(t, "Remove", d.Remove(name), api.OK)
		wantNames(t, d)
	}
}

// P3.2: all but Append and SyncDir ask for a file that is there; Rename asks that of from alone.
func TestNoSuchFile(t *testing.T) {
	for _, op := range readersByName() {
		d := newDisk(t, 10)
		add(t, d, "a", "xyz")
		add(t, d, "b", "u")
		want(t, "Remove", d.Remove("b"), api.OK)
		want(t, "Rename", d.Rename("a", "c"), api.OK)
		for _, name := range []string{"a", "b", "A", "cc"} {
			want(t, op.name, op.do(d, name), api.ErrDiskNone)
		}
		wantTold(t, d, "c=xyz ")
		wantLoose(t, d, 6)
	}
	d := newDisk(t, 10)
	want(t, "SyncDir", d.SyncDir(), api.OK)
	want(t, "Append", d.Append("a", nil), api.OK)
	want(t, "Rename to no file's name", d.Rename("a", "b"), api.OK)
}

// P3.2: room counts the bytes of all files that have a name; just full is not too full; no bytes always find room.
func TestRoom(t *testing.T) {
	d := newDisk(t, 5)
	want(t, "six bytes", d.Append("a", []byte("123456")), api.ErrDiskFull)
	wantNames(t, d)
	wantLoose(t, d, 0)
	add(t, d, "a", "123")
	add(t, d, "b", "45")
	want(t, "one more", d.Append("b", []byte("6")), api.ErrDiskFull)
	want(t, "one more, in a new file", d.Append("c", []byte("6")), api.ErrDiskFull)
	add(t, d, "b", "")
	add(t, d, "c", "")
	wantTold(t, d, "a=123 b=45 c= ")
	wantLoose(t, d, 5)
	want(t, "Remove", d.Remove("a"), api.OK)
	add(t, d, "b", "678")
	want(t, "one more", d.Append("c", []byte("9")), api.ErrDiskFull)
}

func TestRoomOfNothing(t *testing.T) {
	d := newDisk(t, 0)
	want(t, "a byte", d.Append("a", []byte("x")), api.ErrDiskFull)
	want(t, "nil", d.Append("a", nil), api.OK)
	want(t, "no bytes", d.Append("b", []byte{}), api.OK)
	wantTold(t, d, "a= b= ")
	wantLoose(t, d, 2)
}

// P3.2: a name that another file takes over, and bytes that a failing Sync undoes, give room; a name that a failing SyncDir brings back takes it.
func TestRoomThatComesAndGoes(t *testing.T) {
	d := newDisk(t, 6)
	sure(t, d, "a", "xyz")
	add(t, d, "b", "uvw")
	want(t, "full", d.Append("b", []byte("1")), api.ErrDiskFull)
	want(t, "Rename", d.Rename("b", "a"), api.OK)
	add(t, d, "a", "123")
	want(t, "full", d.Append("a", []byte("4")), api.ErrDiskFull)
	d.FailAt(d.Ops(), d.Ops()+2)
	want(t, "Sync", d.Sync("a"), api.ErrDiskIO)
	add(t, d, "a", "12345")
	want(t, "SyncDir", d.SyncDir(), api.ErrDiskIO)
	wantTold(t, d, "a=xyz ")
	add(t, d, "c", "456")
	want(t, "full", d.Append("c", []byte("7")), api.ErrDiskFull)
	want(t, "Remove", d.Remove("a"), api.OK)
	add(t, d, "c", "789")
	d.FailAt(d.Ops())
	want(t, "SyncDir", d.SyncDir(), api.ErrDiskIO)
	wantTold(t, d, "a=xyz ")
}

// P3.2: a failing SyncDir can bring back more than there is room for.
func TestRoomBelowWhatCameBack(t *testing.T) {
	d := newDisk(t, 4)
	sure(t, d, "a", "xyz")
	sure(t, d, "b", "")
	want(t, "Remove", d.Remove("a"), api.OK)
	add(t, d, "b", "1234")
	d.FailAt(d.Ops())
	want(t, "SyncDir", d.SyncDir(), api.ErrDiskIO)
	wantTold(t, d, "a=xyz b=1234 ")
	want(t, "Append", d.Append("b", []byte("5")), api.ErrDiskFull)
	add(t, d, "b", "")
	want(t, "Remove", d.Remove("b"), api.OK)
	add(t, d, "a", "5")
	want(t, "Append", d.Append("a", []byte("6")), api.ErrDiskFull)
}

// P3.2: which places and lengths ReadAt takes.
func TestReadAt(t *testing.T) {
	d := newDisk(t, 10)
	sure(t, d, "a", "012")
	add(t, d, "a", "34")
	add(t, d, "empty", "")
	numbers := []int{-1, 0, 1, 2, 3, 4, 5, 6, 7, 100, math.MaxInt32, math.MaxInt - 5, math.MaxInt - 1, math.MaxInt, -2, -5, math.MinInt, math.MinInt + 1}
	for name, text := range map[string]string{"a": "01234", "empty": ""} {
		for _, at := range numbers {
			for _, n := range numbers {
				b, e := d.ReadAt(name, at, n)
				right := at >= 0 && n >= 0 && at <= len(text) && n <= len(text) && at+n <= len(text)
				if right && (string(b) != text[at:at+n] || e != api.OK) || !right && (b != nil || e != api.ErrArg) {
					t.Errorf("ReadAt(%s, %d, %d): %q, %d", name, at, n, b, e)
				}
			}
		}
	}
}

// P3.2: Append makes a file, and its bytes come behind: one act each, and none for no bytes.
func TestAppendActs(t *testing.T) {
	d := newDisk(t, 10)
	add(t, d, "a", "")
	wantLoose(t, d, 1)
	add(t, d, "a", "")
	wantLoose(t, d, 1)
	add(t, d, "a", "xy")
	wantLoose(t, d, 2)
	add(t, d, "a", "z")
	wantLoose(t, d, 3)
	wantText(t, d, "a", "xyz")
	add(t, d, "b", "u")
	wantLoose(t, d, 5)
}

// P3.2: Sync makes a file's acts sure, and neither those of others nor the directory's; SyncDir the directory's alone.
func TestSyncs(t *testing.T) {
	d := newDisk(t, 10)
	add(t, d, "a", "x")
	add(t, d, "b", "u")
	add(t, d, "a", "y")
	wantLoose(t, d, 5)
	want(t, "Sync", d.Sync("a"), api.OK)
	wantLoose(t, d, 3)
	wantNames(t, d.Crash(0, 5))
	want(t, "SyncDir", d.SyncDir(), api.OK)
	wantLoose(t, d, 1)
	wantTold(t, d.Crash(0, 0), "a=xy b= ")
	want(t, "SyncDir", d.SyncDir(), api.OK)
	want(t, "Sync", d.Sync("a"), api.OK)
	wantLoose(t, d, 1)
	want(t, "Sync", d.Sync("b"), api.OK)
	wantLoose(t, d, 0)
	wantTold(t, d.Crash(0, 0), "a=xy b=u ")
	add(t, d, "b", "v")
	want(t, "SyncDir", d.SyncDir(), api.OK)
	wantTold(t, d.Crash(0, 0), "a=xy b=u ")
}

// P3.2: Rename to its own name is nothing, but an operation that asks for the name and the file.
func TestRenameToItself(t *testing.T) {
	d := newDisk(t, 10)
	sure(t, d, "a", "xyz")
	add(t, d, "a", "uv")
	want(t, "Rename", d.Rename("a", "a"), api.OK)
	wantTold(t, d, "a=xyzuv ")
	wantLoose(t, d, 1)
	wantOps(t, d, 5)
	add(t, d, "a", "12345")
	want(t, "full", d.Append("a", []byte("6")), api.ErrDiskFull)
	want(t, "Rename", d.Rename("b", "b"), api.ErrDiskNone)
	want(t, "Rename", d.Rename("", ""), api.ErrDiskName)
	d.FailAt(d.Ops())
	want(t, "Rename", d.Rename("a", "a"), api.ErrDiskIO)
	wantLoose(t, d, 2)
}

// P3.2: Rename takes the name from the file that had it, in one act; loose bytes go with their file.
func TestRename(t *testing.T) {
	d := newDisk(t, 20)
	sure(t, d, "a", "aa")
	sure(t, d, "b", "bb")
	add(t, d, "a", "11")
	add(t, d, "b", "22")
	want(t, "Rename", d.Rename("a", "b"), api.OK)
	wantLoose(t, d, 3)
	wantTold(t, d, "b=aa11 ")
	wantTold(t, d.Crash(0, 0), "a=aa b=bb ")
	wantTold(t, d.Crash(2, 9), "a=aa11 b=bb22 ")
	add(t, d, "a", "3")
	wantTold(t, d, "a=3 b=aa11 ")
	want(t, "Sync", d.Sync("b"), api.OK)
	wantLoose(t, d, 4) // 22 of the file that has no name, the rename, a made anew, 3
	wantTold(t, d.Crash(0, 0), "a=aa11 b=bb ")
	wantTold(t, d.Crash(1, 0), "a=aa11 b=bb22 ")
	wantTold(t, d.Crash(2, 0), "b=aa11 ")
	wantTold(t, d.Crash(3, 0), "a= b=aa11 ")
	want(t, "SyncDir", d.SyncDir(), api.OK)
	wantTold(t, d.Crash(0, 0), "a= b=aa11 ")
}

// P3.2: two names change places by way of a third one.
func TestRenameRound(t *testing.T) {
	d := newDisk(t, 20)
	sure(t, d, "a", "1")
	sure(t, d, "b", "2")
	want(t, "Rename", d.Rename("a", "c"), api.OK)
	want(t, "Rename", d.Rename("b", "a"), api.OK)
	want(t, "Rename", d.Rename("c", "b"), api.OK)
	for keep, all := range []string{"a=1 b=2 ", "b=2 c=1 ", "a=2 c=1 ", "a=2 b=1 "} {
		wantTold(t, d.Crash(keep, 0), all)
	}
	d.FailAt(d.Ops())
	want(t, "SyncDir", d.SyncDir(), api.ErrDiskIO)
	wantTold(t, d, "a=1 b=2 ")
}

// P3.2: behind Remove the same name is that of another file.
func TestRemoveAndAppendAgain(t *testing.T) {
	d := newDisk(t, 20)
	sure(t, d, "a", "old")
	add(t, d, "a", "er")
	want(t, "Remove", d.Remove("a"), api.OK)
	wantNames(t, d)
	wantLoose(t, d, 2)
	want(t, "Remove", d.Remove("a"), api.ErrDiskNone)
	add(t, d, "a", "new")
	wantLoose(t, d, 4)
	want(t, "Sync", d.Sync("a"), api.OK)
	wantLoose(t, d, 3) // er, the name removed, the file made
	for keep, all := range []string{"a=old ", "a=older ", "", "a=new "} {
		wantTold(t, d.Crash(keep, 0), all)
	}
	want(t, "SyncDir", d.SyncDir(), api.OK)
	wantTold(t, d.Crash(0, 0), "a=new ")
	wantLoose(t, d, 1) // er: nobody can sync a file that has no name
	wantTold(t, d.Crash(0, 1), "a=new ")
}

// P3.2: a failing operation does nothing; all of them fail.
func TestFailingOperations(t *testing.T) {
	for _, op := range operations() {
		d := newDisk(t, 10)
		sure(t, d, "a", "xyz")
		d.FailAt(3)
		want(t, op.name, op.do(d), api.ErrDiskIO)
		wantTold(t, d, "a=xyz ")
		wantLoose(t, d, 0)
		wantOps(t, d, 4)
		want(t, op.name+" again", op.do(d), api.OK)
	}
	d := newDisk(t, 10)
	d.FailAt(0)
	want(t, "Append", d.Append("a", nil), api.ErrDiskIO)
	wantNames(t, d)
	d.FailAt(2)
	add(t, d, "a", "xyz")
	if b, e := d.Read("a"); b != nil || e != api.ErrDiskIO {
		t.Error("Read:", b, e)
	}
	d.FailAt(3)
	if b, e := d.ReadAt("a", 0, 3); b != nil || e != api.ErrDiskIO {
		t.Error("ReadAt:", b, e)
	}
}

// P3.2: what stands ahead of ErrDiskIO is answered ahead of it, and undoes nothing.
func TestErrorsInOrder(t *testing.T) {
	for _, c := range []struct {
		call string
		do   func(d *disk.Disk) api.Errno
		e    api.Errno
	}{
		{"Append: no name, no room", func(d *disk.Disk) api.Errno { return d.Append(" ", make([]byte, 99)) }, api.ErrDiskName},
		{"Append: no room", func(d *disk.Disk) api.Errno { return d.Append("a", make([]byte, 99)) }, api.ErrDiskFull},
		{"Read: no name", func(d *disk.Disk) api.Errno { _, e := d.Read(""); return e }, api.ErrDiskName},
		{"Read: no file", func(d *disk.Disk) api.Errno { _, e := d.Read("z"); return e }, api.ErrDiskNone},
		{"ReadAt: no name, no place", func(d *disk.Disk) api.Errno { _, e := d.ReadAt("", -1, 0); return e }, api.ErrDiskName},
		{"ReadAt: no file, no place", func(d *disk.Disk) api.Errno { _, e := d.ReadAt("z", -1, 0); return e }, api.ErrDiskNone},
		{"ReadAt: no place", func(d *disk.Disk) api.Errno { _, e := d.ReadAt("a", 6, 0); return e }, api.ErrArg},
		{"Sync: no name", func(d *disk.Disk) api.Errno { return d.Sync("") }, api.ErrDiskName},
		{"Sync: no file", func(d *disk.Disk) api.Errno { return d.Sync("z") }, api.ErrDiskNone},
		{"Rename: no name from, no file", func(d *disk.Disk) api.Errno { return d.Rename("", "b") }, api.ErrDiskName},
		{"Rename: no file, no name to", func(d *disk.Disk) api.Errno { return d.Rename("z", "") }, api.ErrDiskName},
		{"Rename: no file", func(d *disk.Disk) api.Errno { return d.Rename("z", "a") }, api.ErrDiskNone},
		{"Remove: no name", func(d *disk.Disk) api.Errno { return d.Remove("") }, api.ErrDiskName},
		{"Remove: no file", func(d *disk.Disk) api.Errno { return d.Remove("z") }, api.ErrDiskNone},
	} {
		d := newDisk(t, 10)
		sure(t, d, "a", "xyz")
		add(t, d, "a", "uv")
		d.FailAt(4)
		want(t, c.call, c.do(d), c.e)
		wantTold(t, d, "a=xyzuv ")
		wantLoose(t, d, 1)
		wantOps(t, d, 5)
		want(t, c.call+", not failing", c.do(d), c.e)
		d.CutAt(0)
		want(t, c.call+", without power", c.do(d), api.ErrDiskOff)
		wantOps(t, d, 6)
	}
}

// P3.2: a Sync that fails undoes that file's loose acts alone, whatever name it has by now.
func TestFailingSync(t *testing.T) {
	d := newDisk(t, 30)
	sure(t, d, "a", "aa")
	sure(t, d, "b", "bb")
	add(t, d, "a", "1")
	add(t, d, "b", "2")
	add(t, d, "c", "3")
	add(t, d, "a", "4")
	want(t, "Rename", d.Rename("a", "d"), api.OK)
	wantLoose(t, d, 6)
	d.FailAt(d.Ops(), d.Ops()+1)
	want(t, "Sync", d.Sync("d"), api.ErrDiskIO)
	wantTold(t, d, "b=bb2 c=3 d=aa ")
	wantLoose(t, d, 4)
	want(t, "Sync", d.Sync("c"), api.ErrDiskIO)
	wantTold(t, d, "b=bb2 c= d=aa ") // the name stands: it is the directory's
	wantLoose(t, d, 3)
	add(t, d, "d", "5")
	wantTold(t, d, "b=bb2 c= d=aa5 ")
	wantTold(t, d.Crash(0, 0), "a=aa b=bb ")
	want(t, "Sync", d.Sync("d"), api.OK)
	wantTold(t, d.Crash(0, 0), "a=aa5 b=bb ")
}

// P3.2: a SyncDir that fails undoes the directory's loose acts alone; bytes stay, and come back with their names.
func TestFailingSyncDir(t *testing.T) {
	d := newDisk(t, 30)
	sure(t, d, "a", "aa")
	sure(t, d, "b", "bb")
	sure(t, d, "c", "cc")
	add(t, d, "a", "1")
	add(t, d, "d", "2")
	want(t, "Remove", d.Remove("a"), api.OK)
	want(t, "Rename", d.Rename("b", "c"), api.OK)
	add(t, d, "c", "3")
	add(t, d, "a", "4")
	wantTold(t, d, "a=4 c=bb3 d=2 ")
	wantLoose(t, d, 8)
	d.FailAt(d.Ops())
	want(t, "SyncDir", d.SyncDir(), api.ErrDiskIO)
	wantTold(t, d, "a=aa1 b=bb3 c=cc ")
	wantLoose(t, d, 4) // bytes of four files, two of which have no name any more
	wantTold(t, d.Crash(0, 0), "a=aa b=bb c=cc ")
	wantTold(t, d.Crash(1, 0), "a=aa1 b=bb c=cc ")
	wantTold(t, d.Crash(3, 0), "a=aa1 b=bb3 c=cc ")
	want(t, "Sync", d.Sync("a"), api.OK)
	wantLoose(t, d, 3)
	want(t, "SyncDir", d.SyncDir(), api.OK)
	wantTold(t, d.Crash(0, 0), "a=aa1 b=bb c=cc ")
}

// R3: bytes that were handed in are not kept, nor written into, nor their spare room.
func TestAppendKeepsNoBytes(t *testing.T) {
	d := newDisk(t, 20)
	b := []byte("xyzSPARE")
	want(t, "Append", d.Append("a", b[:3]), api.OK)
	want(t, "Append", d.Append("a", []byte("uv")), api.OK)
	if string(b) != "xyzSPARE" {
		t.Errorf("handed in: %q", b)
	}
	clear(b)
	wantText(t, d, "a", "xyzuv")
	wantTold(t, d.Crash(1, 2), "a=xy ")
}

// R3: bytes that are handed out are nobody else's, with their spare room.
func TestReadsHandOutCopies(t *testing.T) {
	d := newDisk(t, 100)
	sure(t, d, "a", "xyz")
	add(t, d, "a", "uvw")
	x := d.Crash(1, 0)
	spoil := func(b []byte, e api.Errno) {
		if e != api.OK {
			t.Error(e)
		}
		b = b[:cap(b)]
		for i := range b {
			b[i] = '!'
		}
	}
	spoil(d.Read("a"))
	spoil(d.ReadAt("a", 0, 6))
	spoil(d.ReadAt("a", 2, 2))
	spoil(d.ReadAt("a", 1, 0))
	spoil(x.Read("a"))
	one, _ := d.Read("a")
	two, _ := d.Read("a")
	_ = append(one[:2], "____________"...)
	if string(two) != "xyzuvw" {
		t.Errorf("%q", two)
	}
	clear(d.Names())
	wantTold(t, d, "a=xyzuvw ")
	wantTold(t, x, "a=xyzuvw ")
	add(t, d, "a", "12")
	wantText(t, d, "a", "xyzuvw12")
	wantTold(t, d.Crash(0, 0), "a=xyz ")
}

// P3.2: all bytes are kept as they are, in a file of many appends.
func TestManyAppends(t *testing.T) {
	d := newDisk(t, 1<<20)
	var all []byte
	for i := range 2000 {
		b := bytes.Repeat([]byte{byte(i)}, i%7)
		all = append(all, b...)
		want(t, "Append", d.Append("a", b), api.OK)
		if i%13 == 0 {
			want(t, "Sync", d.Sync("a"), api.OK)
		}
	}
	wantText(t, d, "a", string(all))
	if n := d.Size("a"); n != len(all) {
		t.Error(n, len(all))
	}
	for keep := range d.Loose() + 1 {
		x := d.Crash(keep, 3)
		if b, _ := x.Read("a"); keep > 0 && !bytes.HasPrefix(all, b) {
			t.Error(keep, len(b))
		}
	}
}

// heap tells how much memory is held.
func heap() int {
	var m runtime.MemStats
	runtime.GC()
	runtime.ReadMemStats(&m)
	return int(m.HeapAlloc)
}

// No more is kept than the promises need: bytes of files that get no name any more are let go, though their acts are loose for ever.
func TestBytesWithoutNameAreLetGo(t *testing.T) {
	d := newDisk(t, 1<<30)
	mega := make([]byte, 1<<20)
	was := heap()
	for i := range 48 {
		want(t, "Append", d.Append("a", mega), api.OK)
		switch i % 3 {
		case 0:
			want(t, "Remove", d.Remove("a"), api.OK)
		case 1:
			add(t, d, "b", "")
			want(t, "Rename", d.Rename("b", "a"), api.OK)
			want(t, "SyncDir", d.SyncDir(), api.OK)
			want(t, "Remove", d.Remove("a"), api.OK)
		case 2:
			d.FailAt(d.Ops())
		}
		d.SyncDir()
	}
	wantNames(t, d)
	wantLoose(t, d, 48)
	if more := heap() - was; more > 8<<20 {
		t.Error("bytes held:", more)
	}
	runtime.KeepAlive(d)
	runtime.KeepAlive(mega)
}
