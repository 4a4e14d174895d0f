package store

import (
	"slices"
	"strconv"
	"strings"

	"tussock/api"
	"tussock/disk"
)

const (
	mostArea   = 20
	mostNumber = 1<<31 - 1
)

// files are those of an area. Their names have numbers behind the area's point, each one more than the one that was laid ahead of it. Those count that were laid from the last base on; what else there is was left by a crash, or a failure.
type files struct {
	disk   *disk.Disk
	prefix string // the area and the point
	first  int    // the number of the first one that counts, the base
	many   int    // how many count
	clean  bool   // nothing else is there, and the directory is synced
}

func (f *files) name(number int) string { return f.prefix + strconv.Itoa(number) }

// anew is the name of a file that is not yet laid wholly. Nobody reads it.
func (f *files) anew() string { return f.prefix + "anew" }

// next is the number of the next file that is laid.
func (f *files) next() int { return f.first + f.many }

// numbers are those of all files there are, falling. False: there is one, too, whose name no store gives.
func (f *files) numbers() ([]int, bool) {
	var all []int
	right := true
	for _, name := range f.disk.Names() {
		digits, has := strings.CutPrefix(name, f.prefix)
		if !has || name == f.anew() {
			continue
		}
		n, ok := takeNumber(digits)
		if ok {
			all = append(all, n)
		}
		right = right && ok
	}
	slices.Sort(all)
	slices.Reverse(all)
	return all, right
}

func takeNumber(digits string) (int, bool) {
	n, err := strconv.Atoi(digits)
	return n, err == nil && n >= 0 && n <= mostNumber && strconv.Itoa(n) == digits
}

// standOn tells whether all files that count are on a disk.
func (f *files) standOn(d *disk.Disk) bool {
	for i := range f.many {
		if d.Size(f.name(f.first+i)) < 0 {
			return false
		}
	}
	return true
}

// isSure tells whether all files that count stay whatever happens. What a store lays is sure when the call answers; but one that was opened when the power had come back, without a crash, may have seen a name that is loose. Whether it has, the disk tells by what a crash would leave.
func (f *files) isSure() bool {
	return f.clean || f.disk.Loose() == 0 || f.standOn(f.disk.Crash(0, 0))
}

// left are the names of what does not count.
func (f *files) left() []string {
	var names []string
	if f.disk.Size(f.anew()) >= 0 {
		names = append(names, f.anew())
	}
	numbers, _ := f.numbers()
	for _, n := range numbers {
		if n < f.first {
			names = append(names, f.name(n))
		}
	}
	return names
}

// settle removes what does not count, and syncs the directory.
func (f *files) settle() api.Errno {
	if f.clean {
		return api.OK
	}
	for _, name := range f.left() {
		if e := f.disk.Remove(name); e != api.OK {
			return e
		}
	}
	e := f.disk.SyncDir()
	f.clean = e == api.OK
	return e
}

// lay lays the file of the next number, wholly or not at all: under its name it is complete from the beginning, and a sync of the directory that fails takes the name back.
func (f *files) lay(b []byte) api.Errno {
	e := f.disk.Append(f.anew(), b)
	if e == api.OK {
		e = f.disk.Sync(f.anew())
	}
	if e == api.OK {
		e = f.disk.Rename(f.anew(), f.name(f.next()))
	}
	if e == api.OK {
		e = f.disk.SyncDir()
	}
	if e != api.OK {
		f.clean = false
		f.settle() // it takes up room; if that fails, too, the next call does it
	}
	return e
}

// readFront reads what stands in a file ahead of the objects' bytes.
func (f *files) readFront(number int) (front, api.Errno) {
	b, e := f.piece(number, 0, headSize)
	if e != api.OK {
		return front{}, e
	}
	h, ok := takeHead(b, number)
	if !ok {
		return front{}, api.ErrStoreCorrupt
	}
	b, e = f.piece(number, headSize, h.size+wordSize)
	if e != api.OK {
		return front{}, e
	}
	rows, ok := takeRows(b)
	x := front{h, rows}
	if !ok || !h.base && len(rows) == 0 || x.length() != f.disk.Size(f.name(number)) {
		return front{}, api.ErrStoreCorrupt
	}
	return x, api.OK
}

// piece reads some bytes of a file. If there is no such file, or no such place in it, it is not the one that was laid.
func (f *files) piece(number, at, n int) ([]byte, api.Errno) {
	b, e := f.disk.ReadAt(f.name(number), at, n)
	switch e {
	case api.OK, api.ErrDiskIO, api.ErrDiskOff:
		return b, e
	}
	return nil, api.ErrStoreCorrupt
}
