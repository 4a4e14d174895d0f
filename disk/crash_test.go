package disk_test

import (
	"math"
	"testing"

	"tussock/api"
	"tussock/disk"
)

// crashing is a disk with loose acts of each kind; outcomes is what it has with each number of them kept.
func crashing(t *testing.T) *disk.Disk {
	d := newDisk(t, 40)
	sure(t, d, "a", "aa")
	sure(t, d, "b", "bb")
	add(t, d, "a", "123")                          // 0
	add(t, d, "c", "45")                           // 1, 2
	want(t, "Remove", d.Remove("b"), api.OK)       // 3
	add(t, d, "a", "6")                            // 4
	want(t, "Rename", d.Rename("c", "a"), api.OK)  // 5
	add(t, d, "b", "78")                           // 6, 7
	want(t, "Rename", d.Rename("b", "bb"), api.OK) // 8
	wantLoose(t, d, 9)
	return d
}

func outcomes() []string {
	return []string{
		"a=aa b=bb ",
		"a=aa123 b=bb ",
		"a=aa123 b=bb c= ",
		"a=aa123 b=bb c=45 ",
		"a=aa123 c=45 ",
		"a=aa1236 c=45 ",
		"a=45 ",
		"a=45 b= ",
		"a=45 b=78 ",
		"a=45 bb=78 ",
	}
}

// P3.6: the first keep of the loose acts stay, none below 0, all beyond them.
func TestCrashKeeps(t *testing.T) {
	d := crashing(t)
	all := outcomes()
	for keep, has := range all {
		wantTold(t, d.Crash(keep, 0), has)
		wantTold(t, d.Crash(keep, -1), has)
		wantTold(t, d.Crash(keep, math.MinInt), has)
	}
	for _, keep := range []int{-1, -9, math.MinInt} {
		wantTold(t, d.Crash(keep, 0), all[0])
		wantTold(t, d.Crash(keep, 1), "a=aa1 b=bb ")
	}
	for _, keep := range []int{9, 10, 1000, math.MaxInt} {
		for _, torn := range []int{-1, 0, 1, 9, math.MaxInt} {
			wantTold(t, d.Crash(keep, torn), all[9])
		}
	}
}

// P3.6: of the next act, if it is bytes, the first torn stay; if it is the directory's, nothing does.
func TestCrashTears(t *testing.T) {
	d := crashing(t)
	all := outcomes()
	for torn, has := range []string{"a=aa b=bb ", "a=aa1 b=bb ", "a=aa12 b=bb ", "a=aa123 b=bb ", "a=aa123 b=bb ", "a=aa123 b=bb "} {
		wantTold(t, d.Crash(0, torn), has)
	}
	wantTold(t, d.Crash(2, 1), "a=aa123 b=bb c=4 ")
	wantTold(t, d.Crash(7, 1), "a=45 b=7 ")
	for _, keep := range []int{0, 2, 4, 7} { // the next one is bytes
		wantTold(t, d.Crash(keep, math.MaxInt), all[keep+1])
	}
	for _, keep := range []int{1, 3, 5, 6, 8} { // the next one is the directory's
		for _, torn := range []int{1, 2, math.MaxInt} {
			wantTold(t, d.Crash(keep, torn), all[keep])
		}
	}
}

// P3.6: an act of which bytes are torn off comes with none that come behind it.
func TestCrashTearsOneActAlone(t *testing.T) {
	d := newDisk(t, 20)
	sure(t, d, "a", "x")
	add(t, d, "a", "12")
	add(t, d, "a", "34")
	add(t, d, "a", "56")
	for _, c := range []struct {
		keep, torn int
		has        string
	}{
		{0, 0, "x"}, {0, 1, "x1"}, {0, 2, "x12"}, {0, 3, "x12"}, {0, 6, "x12"},
		{1, 0, "x12"}, {1, 1, "x123"}, {1, 4, "x1234"}, {2, 1, "x12345"}, {2, 2, "x123456"}, {3, 5, "x123456"},
	} {
		wantText(t, d.Crash(c.keep, c.torn), "a", c.has)
	}
}

// P3.6: loose acts of files without a name count, and bring nothing back.
func TestCrashWithFilesWithoutName(t *testing.T) {
	d := newDisk(t, 40)
	sure(t, d, "a", "aa")
	add(t, d, "a", "11")                          // stays loose
	add(t, d, "b", "22")                          // stays loose, the name goes sure
	want(t, "Remove", d.Remove("a"), api.OK)      // sure below
	want(t, "Rename", d.Rename("b", "c"), api.OK) // sure below
	add(t, d, "b", "33")
	want(t, "Rename", d.Rename("b", "c"), api.OK) // sure below: 22 has no name
	want(t, "SyncDir", d.SyncDir(), api.OK)
	wantTold(t, d, "c=33 ")
	wantLoose(t, d, 3) // 11, 22, 33
	for keep, has := range []string{"c= ", "c= ", "c= ", "c=33 "} {
		wantTold(t, d.Crash(keep, 0), has)
	}
	wantTold(t, d.Crash(0, 2), "c= ")
	wantTold(t, d.Crash(1, 2), "c= ")
	wantTold(t, d.Crash(2, 1), "c=3 ")
	want(t, "Sync", d.Sync("c"), api.OK)
	wantLoose(t, d, 2)
	wantTold(t, d.Crash(0, 1), "c=33 ")
	x := d.Crash(2, 0)
	wantLoose(t, x, 0)
	wantTold(t, x, "c=33 ")
}

// P3.6: a file that lost its name loosely, and whose bytes were made sure meanwhile, has these when its name comes back.
func TestCrashBringsANameBack(t *testing.T) {
	d := newDisk(t, 40)
	sure(t, d, "a", "aa")
	add(t, d, "a", "11")
	want(t, "Rename", d.Rename("a", "b"), api.OK)
	want(t, "Sync", d.Sync("b"), api.OK)
	add(t, d, "b", "22")
	want(t, "Remove", d.Remove("b"), api.OK)
	wantLoose(t, d, 3)
	for keep, has := range []string{"a=aa11 ", "b=aa11 ", "b=aa1122 ", ""} {
		wantTold(t, d.Crash(keep, 0), has)
	}
	d.FailAt(d.Ops())
	want(t, "SyncDir", d.SyncDir(), api.ErrDiskIO)
	wantTold(t, d, "a=aa1122 ")
	wantTold(t, d.Crash(0, 1), "a=aa112 ")
}

// P3.6: what a crash leaves is a disk of the same room, all of it sure, the power on, no operations, none failing.
func TestCrashMakesAFreshDisk(t *testing.T) {
	d := newDisk(t, 8)
	sure(t, d, "a", "xyz")
	add(t, d, "a", "uv")
	d.FailAt(4, 5, 6, 7, 0, 1, 2, 3)
	d.CutAt(4)
	want(t, "Sync", d.Sync("a"), api.ErrDiskOff)
	x := d.Crash(1, 0)
	wantOps(t, x, 0)
	wantLoose(t, x, 0)
	for range 10 {
		wantText(t, x, "a", "xyzuv")
	}
	wantOps(t, x, 10)
	wantTold(t, x.Crash(0, 0), "a=xyzuv ")
	want(t, "one too many", x.Append("b", []byte("1234")), api.ErrDiskFull)
	add(t, x, "b", "123")
	want(t, "full", x.Append("b", []byte("4")), api.ErrDiskFull)
	x.FailAt(x.Ops(), x.Ops()+1)
	want(t, "Sync", x.Sync("a"), api.ErrDiskIO)
	want(t, "SyncDir", x.SyncDir(), api.ErrDiskIO)
	wantTold(t, x, "a=xyzuv ")
}

// P3.6: the room is the one that there is by now, even below what comes back.
func TestCrashKeepsRoom(t *testing.T) {
	d := newDisk(t, 8)
	sure(t, d, "a", "xyz")
	d.SetRoom(2)
	x := d.Crash(0, 0)
	wantText(t, x, "a", "xyz")
	want(t, "full", x.Append("a", []byte("u")), api.ErrDiskFull)
	add(t, x, "b", "")
	x.SetRoom(4)
	add(t, x, "a", "u")
	d.SetRoom(3)
	want(t, "Remove", d.Remove("a"), api.OK)
	add(t, d, "b", "123")
	x = d.Crash(0, 0)
	want(t, "full", x.Append("b", []byte("1")), api.ErrDiskFull)
	x = d.Crash(2, 0)
	add(t, x, "b", "123")
}

// P3.6: the disk that crashed stays as it is, and the two have nothing in common from then on.
func TestCrashLeavesTheOther(t *testing.T) {
	d := crashing(t)
	d.FailAt(d.Ops() + 1)
	d.CutAt(d.Ops() + 2)
	ops := d.Ops()
	for keep := -1; keep < 11; keep++ {
		for torn := -1; torn < 4; torn++ {
			x := d.Crash(keep, torn)
			for _, name := range x.Names() {
				want(t, "Append", x.Append(name, []byte("!")), api.OK)
				want(t, "Turn", x.Turn(name, 0, 1), api.OK)
				want(t, "Sync", x.Sync(name), api.OK)
				want(t, "Remove", x.Remove(name), api.OK)
			}
			add(t, x, "new", "1")
			want(t, "SyncDir", x.SyncDir(), api.OK)
			x.SetRoom(0)
			x.CutAt(0)
		}
	}
	wantLoose(t, d, 9)
	wantOps(t, d, ops)
	for keep, has := range outcomes() {
		wantTold(t, d.Crash(keep, 0), has)
	}
	x := d.Crash(4, 0)
	want(t, "Append", d.Append("a", []byte("!")), api.OK)
	want(t, "failing", d.Sync("a"), api.ErrDiskIO)
	want(t, "cut", d.Sync("a"), api.ErrDiskOff)
	d.Turn("bb", 0, 1)
	wantTold(t, x, outcomes()[4])
	wantTold(t, d, "a= bb=68 ")
}

// P3.6: a crash of what a crash left.
func TestCrashOfACrash(t *testing.T) {
	d := crashing(t)
	x := d.Crash(4, 0) // a=aa123 c=45, all of it sure
	add(t, x, "c", "67")
	want(t, "Rename", x.Rename("c", "a"), api.OK)
	for keep, has := range []string{"a=aa123 c=45 ", "a=aa123 c=4567 ", "a=4567 "} {
		y := x.Crash(keep, 0)
		wantTold(t, y, has)
		for again := range 3 {
			wantTold(t, y.Crash(again, again), has)
		}
	}
	wantTold(t, x.Crash(0, 1).Crash(0, 0), "a=aa123 c=456 ")
	wantTold(t, d, "a=45 bb=78 ")
}
