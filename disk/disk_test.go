package disk_test

import (
	"math"
	"slices"
	"strings"
	"testing"

	"tussock/api"
	"tussock/disk"
)

// The chapter's examples, as they stand in its table.
func TestExamples(t *testing.T) {
	d := newDisk(t, 10)
	add(t, d, "a", "xyz")
	want(t, "Sync", d.Sync("a"), api.OK)
	add(t, d, "a", "uv")
	if n := d.Size("a"); n != 5 {
		t.Error("Size:", n)
	}
	wantLoose(t, d, 2)
	wantNames(t, d.Crash(0, 9))
	wantText(t, d.Crash(1, 0), "a", "xyz")
	wantText(t, d.Crash(1, 1), "a", "xyzu")
	want(t, "Append of six", d.Append("b", []byte("123456")), api.ErrDiskFull)
	want(t, "Rename", d.Rename("a", "c"), api.OK)
	want(t, "Remove", d.Remove("a"), api.ErrDiskNone)
	wantNames(t, d, "c")
	want(t, "SyncDir", d.SyncDir(), api.OK)
	d.FailAt(7)
	want(t, "Append 7", d.Append("c", []byte("xyz")), api.ErrDiskIO)
	d.FailAt(8)
	want(t, "Sync 8", d.Sync("c"), api.ErrDiskIO)
	wantText(t, d, "c", "xyz")
	d.CutAt(10)
	for range 2 {
		if b, e := d.Read("c"); len(b) != 0 || e != api.ErrDiskOff {
			t.Error(b, e)
		}
	}
	d = newDisk(t, 10)
	if b, e := d.Read(""); len(b) != 0 || e != api.ErrDiskName {
		t.Error(b, e)
	}
	want(t, "Turn", d.Turn("a", 0, 1), api.ErrArg)
}

// P3.1: room below 0 is refused, any other one is taken.
func TestNewRefusesRoomBelowNought(t *testing.T) {
	for _, room := range []int{-1, -2, -1000, math.MinInt} {
		if d, e := disk.New(room); d != nil || e != api.ErrArg {
			t.Errorf("New(%d): %v, %d; want nil, ErrArg", room, d, e)
		}
	}
	for _, room := range []int{0, 1, 10, math.MaxInt32, math.MaxInt} {
		newDisk(t, room)
	}
}

// P3.1: a new disk has no files, no operations and none that fails, and its power is on.
func TestNewIsEmpty(t *testing.T) {
	d := newDisk(t, 4)
	wantNames(t, d)
	wantOps(t, d, 0)
	wantLoose(t, d, 0)
	if n := d.Size("a"); n != -1 {
		t.Error("Size:", n)
	}
	want(t, "SyncDir", d.SyncDir(), api.OK)
	add(t, d, "a", "wxyz")
	want(t, "Append past the room", d.Append("a", []byte("v")), api.ErrDiskFull)
	for range 20 {
		wantText(t, d, "a", "wxyz")
	}
}

// P3.1: two disks have nothing in common.
func TestDisksAreApart(t *testing.T) {
	d, x := newDisk(t, 3), newDisk(t, 3)
	add(t, d, "a", "xyz")
	d.FailAt(0, 1)
	d.CutAt(0)
	wantNames(t, x)
	add(t, x, "b", "xyz")
	wantOps(t, x, 1)
	wantNames(t, d, "a")
}

// P3.2, P3.3, P3.4, P3.5, P3.6: what a nil disk answers.
func TestNilDisk(t *testing.T) {
	var d *disk.Disk
	for _, op := range operations() {
		want(t, op.name, op.do(d), api.ErrNil)
	}
	for _, op := range allByName() {
		want(t, op.name+" of no name", op.do(d, ""), api.ErrNil)
	}
	if b, e := d.Read("a"); b != nil || e != api.ErrNil {
		t.Error("Read:", b, e)
	}
	if b, e := d.ReadAt("a", -1, -1); b != nil || e != api.ErrNil {
		t.Error("ReadAt:", b, e)
	}
	wantNames(t, d)
	if n := d.Size("a"); n != -1 {
		t.Error("Size:", n)
	}
	wantOps(t, d, 0)
	wantLoose(t, d, 0)
	d.SetRoom(3)
	d.CutAt(0)
	d.FailAt(0, 1)
	d.FailAt()
	want(t, "Turn", d.Turn("a", 0, 1), api.ErrNil)
	want(t, "Turn of nothing", d.Turn("", -1, 1), api.ErrNil)
	if x := d.Crash(1, 1); x != nil {
		t.Error("Crash:", x)
	}
}

// R1: a disk that New did not make has no room, but does not panic.
func TestDiskWithoutNew(t *testing.T) {
	for _, op := range operations() {
		op.do(new(disk.Disk))
		op.do(new(disk.Disk).Crash(1, 1))
	}
	d := new(disk.Disk)
	d.FailAt(2)
	wantNames(t, d)
	want(t, "Append", d.Append("a", []byte("x")), api.ErrDiskFull)
	add(t, d, "a", "")
	want(t, "SyncDir", d.SyncDir(), api.ErrDiskIO)
	wantNames(t, d)
}

// P3.3: names rise bytewise, whatever order they came in.
func TestNamesRise(t *testing.T) {
	names := []string{"b", "a", "Z", "~", "!", "aa", "a!", "ab", "A", "0", "10", "9", "a~", strings.Repeat("a", 80)}
	sorted := slices.Clone(names)
	slices.SortFunc(sorted, strings.Compare)
	for range 5 {
		d := newDisk(t, 0)
		for _, name := range names {
			add(t, d, name, "")
		}
		wantNames(t, d, sorted...)
		wantNames(t, d.Crash(len(names), 0), sorted...)
	}
}

// P3.3: Size counts loose bytes, too; a name that is none has no file.
func TestSize(t *testing.T) {
	d := newDisk(t, 10)
	add(t, d, "empty", "")
	sure(t, d, "a", "xyz")
	add(t, d, "a", "uv")
	for name, n := range map[string]int{"a": 5, "empty": 0, "b": -1, "": -1, "\n": -1, strings.Repeat("a", 81): -1} {
		if got := d.Size(name); got != n {
			t.Errorf("Size(%q): %d; want %d", name, got, n)
		}
	}
	want(t, "Remove", d.Remove("a"), api.OK)
	if got := d.Size("a"); got != -1 {
		t.Error("Size behind Remove:", got)
	}
}

// P3.3: what is only looked at is no operation, and goes on without power.
func TestLooksAreNoOperations(t *testing.T) {
	d := newDisk(t, 10)
	add(t, d, "a", "xyz")
	d.CutAt(0)
	want(t, "Remove", d.Remove("a"), api.ErrDiskOff)
	d.FailAt(1)
	for range 3 {
		wantNames(t, d, "a")
		if n := d.Size("a"); n != 3 {
			t.Error("Size:", n)
		}
		wantOps(t, d, 1)
		wantLoose(t, d, 2)
		d.SetRoom(10)
		d.FailAt(1)
		want(t, "Turn", d.Turn("a", 0, 0), api.OK)
		d.Crash(0, 0)
	}
	d.CutAt(-1)
	want(t, "Remove", d.Remove("a"), api.ErrDiskIO)
}

// P3.3: every operation is numbered, whatever it answers, unless the power is gone.
func TestOpsCountsErrorsToo(t *testing.T) {
	d := newDisk(t, 1)
	d.FailAt(1)
	for i, e := range []api.Errno{
		d.Append("a", []byte("x")), d.Append("a", nil), d.Append("a", []byte("x")), d.Append("", nil), d.Sync("b"), d.Rename("a", ""), d.SyncDir(),
	} {
		w := []api.Errno{api.OK, api.ErrDiskIO, api.ErrDiskFull, api.ErrDiskName, api.ErrDiskNone, api.ErrDiskName, api.OK}[i]
		want(t, "operation", e, w)
	}
	if _, e := d.ReadAt("a", 2, 0); e != api.ErrArg {
		t.Error(e)
	}
	wantOps(t, d, 8)
	d.CutAt(8)
	for range 3 {
		want(t, "SyncDir", d.SyncDir(), api.ErrDiskOff)
		wantOps(t, d, 8)
	}
	d.CutAt(-1)
	want(t, "SyncDir", d.SyncDir(), api.OK)
	wantOps(t, d, 9)
}

// P3.4: room can be had more or less of; what there is stays.
func TestSetRoom(t *testing.T) {
	d := newDisk(t, 3)
	add(t, d, "a", "xyz")
	want(t, "Append", d.Append("a", []byte("u")), api.ErrDiskFull)
	d.SetRoom(4)
	add(t, d, "b", "u")
	want(t, "Append", d.Append("c", []byte("v")), api.ErrDiskFull)
	for _, room := range []int{2, 0, -1, math.MinInt} {
		d.SetRoom(room)
		wantTold(t, d, "a=xyz b=u ")
		want(t, "Append", d.Append("c", []byte("v")), api.ErrDiskFull)
		add(t, d, "a", "")
	}
	want(t, "Remove", d.Remove("a"), api.OK)
	want(t, "Append", d.Append("b", []byte("v")), api.ErrDiskFull)
	d.SetRoom(2)
	add(t, d, "b", "v")
	want(t, "Append", d.Append("b", []byte("w")), api.ErrDiskFull)
	d.SetRoom(math.MaxInt)
	add(t, d, "b", "w")
	d.SetRoom(-5)
	want(t, "Remove", d.Remove("b"), api.OK)
	want(t, "Append", d.Append("c", []byte("v")), api.ErrDiskFull)
	add(t, d, "c", "")
}

// P3.4: the power goes at that operation, at the next one if that one was already, at none below 0.
func TestCutAt(t *testing.T) {
	for op, good := range map[int]int{3: 0, 2: 0, 1: 0, 0: 0, 4: 1, 5: 2, 9: 6, -1: 20, -7: 20, math.MinInt: 20, math.MaxInt: 20} {
		d := newDisk(t, 10)
		sure(t, d, "a", "xyz")
		d.CutAt(op)
		for i := range 20 {
			e := d.SyncDir()
			if i < good {
				want(t, "ahead of the cut", e, api.OK)
			} else {
				want(t, "behind the cut", e, api.ErrDiskOff)
			}
		}
		wantOps(t, d, 3+good)
		wantTold(t, d, "a=xyz ")
	}
}

// P3.2, P3.4: whichever operation it is at which the power goes, it is not done, and neither are those behind it.
func TestCutOperationIsNotDone(t *testing.T) {
	for _, op := range operations() {
		d := newDisk(t, 10)
		sure(t, d, "a", "xyz")
		add(t, d, "a", "uv")
		add(t, d, "c", "")
		d.CutAt(d.Ops())
		d.FailAt(d.Ops(), d.Ops()+1) // which undoes nothing without power
		for range 3 {
			want(t, op.name, op.do(d), api.ErrDiskOff)
			wantTold(t, d, "a=xyzuv c= ")
			wantLoose(t, d, 2)
			wantOps(t, d, 5)
		}
	}
}

// P3.4: another CutAt lets the power be on again till the operation that it says; the last one holds.
func TestCutAtAgain(t *testing.T) {
	d := newDisk(t, 10)
	d.CutAt(1)
	d.CutAt(0)
	want(t, "SyncDir", d.SyncDir(), api.ErrDiskOff)
	d.CutAt(2)
	want(t, "SyncDir 0", d.SyncDir(), api.OK)
	want(t, "SyncDir 1", d.SyncDir(), api.OK)
	want(t, "SyncDir 2", d.SyncDir(), api.ErrDiskOff)
	d.CutAt(0)
	want(t, "SyncDir 2", d.SyncDir(), api.ErrDiskOff)
	d.CutAt(2)
	want(t, "SyncDir 2", d.SyncDir(), api.ErrDiskOff)
	d.CutAt(-1)
	want(t, "SyncDir 2", d.SyncDir(), api.OK)
	d.CutAt(4)
	d.CutAt(-1)
	for range 9 {
		want(t, "SyncDir", d.SyncDir(), api.OK)
	}
}

// P3.4: all operations that were told fail, those that were told in another call, too, once each; no others do.
func TestFailAt(t *testing.T) {
	d := newDisk(t, 10)
	sure(t, d, "a", "xyz") // 0, 1, 2
	d.FailAt(6, 4, 4)
	d.FailAt()
	d.FailAt(2, 0, -1, math.MinInt, math.MaxInt)
	d.FailAt(4, 9)
	for op := 3; op < 15; op++ {
		_, e := d.Read("a")
		if op == 4 || op == 6 || op == 9 {
			want(t, "failing Read", e, api.ErrDiskIO)
		} else {
			want(t, "Read", e, api.OK)
		}
	}
}

// P3.4: a list of numbers that is handed in is not kept.
func TestFailAtKeepsNoList(t *testing.T) {
	d := newDisk(t, 10)
	ops := []int{1, 9}
	d.FailAt(ops...)
	ops[0], ops[1] = 0, 0
	want(t, "SyncDir 0", d.SyncDir(), api.OK)
	want(t, "SyncDir 1", d.SyncDir(), api.ErrDiskIO)
}

// P3.4: a failing number stays one while the power is gone: operations are not numbered then.
func TestFailAtOutlivesACut(t *testing.T) {
	d := newDisk(t, 10)
	d.FailAt(0)
	d.CutAt(0)
	want(t, "SyncDir", d.SyncDir(), api.ErrDiskOff)
	d.CutAt(1)
	want(t, "SyncDir", d.SyncDir(), api.ErrDiskIO)
	want(t, "SyncDir", d.SyncDir(), api.ErrDiskOff)
}

// P3.5: what Turn refuses, and that it then turns nothing.
func TestTurnRefuses(t *testing.T) {
	d := newDisk(t, 10)
	add(t, d, "a", "xyz")
	add(t, d, "empty", "")
	add(t, d, "gone", "u")
	want(t, "Remove", d.Remove("gone"), api.OK)
	for _, c := range []struct {
		name string
		at   int
	}{
		{"a", -1}, {"a", 3}, {"a", 4}, {"a", math.MaxInt}, {"a", math.MinInt}, {"b", 0}, {"", 0}, {"\n", 0}, {"empty", 0}, {"gone", 0},
	} {
		want(t, "Turn", d.Turn(c.name, c.at, 255), api.ErrArg)
	}
	wantTold(t, d, "a=xyz empty= ")
}

// P3.5: any byte can be turned, by all bits; twice is as never; by 0 changes nothing.
func TestTurnIsExclusiveOr(t *testing.T) {
	d := newDisk(t, 256)
	all := make([]byte, 256)
	for i := range all {
		all[i] = byte(i)
	}
	want(t, "Append", d.Append("a", all), api.OK)
	for _, by := range []byte{0, 1, 128, 255, 85} {
		for at := range all {
			want(t, "Turn", d.Turn("a", at, by), api.OK)
		}
		b, _ := d.Read("a")
		for at := range all {
			if b[at] != byte(at)^by {
				t.Fatal(at, by, b[at])
			}
		}
		for at := range all {
			d.Turn("a", at, by)
		}
	}
}

// P3.5: it is no operation and no act: it goes on without power, and fails at no number.
func TestTurnIsNoOperation(t *testing.T) {
	d := newDisk(t, 10)
	sure(t, d, "a", "xyz")
	add(t, d, "a", "uv")
	d.FailAt(4)
	d.CutAt(0)
	want(t, "Sync", d.Sync("a"), api.ErrDiskOff)
	want(t, "Turn", d.Turn("a", 0, 1), api.OK)
	wantOps(t, d, 4)
	wantLoose(t, d, 1)
	d.CutAt(-1)
	d.SetRoom(0)
	want(t, "Turn", d.Turn("a", 4, 2), api.OK)
	wantTold(t, d, "a=yyzut ")
}

// P3.5: a turned byte stays turned behind a crash and a failing Sync, be it sure or loose; with a loose one that goes, its turn goes.
func TestTurnLasts(t *testing.T) {
	d := newDisk(t, 10)
	sure(t, d, "a", "xyz")
	add(t, d, "a", "uv")
	add(t, d, "a", "w")
	d.Turn("a", 0, 1) // sure
	d.Turn("a", 3, 1) // of the first act
	d.Turn("a", 5, 1) // of the second
	wantTold(t, d.Crash(0, 0), "a=yyz ")
	wantTold(t, d.Crash(0, 1), "a=yyzt ")
	wantTold(t, d.Crash(1, 0), "a=yyztv ")
	wantTold(t, d.Crash(1, 1), "a=yyztvv ")
	d.FailAt(d.Ops())
	want(t, "Sync", d.Sync("a"), api.ErrDiskIO)
	wantTold(t, d, "a=yyz ")
	add(t, d, "a", "uv")
	wantTold(t, d, "a=yyzuv ")
	d.Turn("a", 4, 3)
	want(t, "Sync", d.Sync("a"), api.OK)
	wantTold(t, d.Crash(0, 0), "a=yyzuu ")
}

// P3.5: a turn of the file that has the name is none of one that had it.
func TestTurnIsOfTheFile(t *testing.T) {
	d := newDisk(t, 10)
	sure(t, d, "a", "x")
	want(t, "Remove", d.Remove("a"), api.OK)
	add(t, d, "a", "y")
	d.Turn("a", 0, 3)
	wantTold(t, d, "a=z ")
	wantTold(t, d.Crash(0, 0), "a=x ")
	want(t, "Rename", d.Rename("a", "b"), api.OK)
	d.Turn("b", 0, 1)
	wantTold(t, d.Crash(3, 0), "a={ ")
}
