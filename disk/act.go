package disk

import (
	"maps"
	"math"
	"slices"
	"strings"
)

// file is itself, whatever its name is: names lead to it, loose acts hold it.
type file struct {
	bytes []byte // the sure ones first, since loose ones come behind alone
	sure  int    // so many of them
	named bool
}

// directory says which names there are, each of which file.
type directory map[string]*file

// outcome is what acts are done to once more: the directory, and how many bytes each file has behind its sure ones.
type outcome struct {
	names directory
	more  map[*file]int
}

// act is what a crash may undo. To do it again is to call do, which lets at most so many of its bytes come.
type act struct {
	of *file // nil: it is the directory's
	do func(o outcome, most int)
}

// change does an act of the directory.
func (d *Disk) change(do func(names directory)) {
	do(d.now)
	d.loose = append(d.loose, act{do: func(o outcome, _ int) { do(o.names) }})
}

// made makes a file under a name.
func (d *Disk) made(name string) *file {
	name = strings.Clone(name) // which may be a piece of some great text
	f := &file{named: true}
	d.change(func(names directory) { names[name] = f })
	return f
}

// extend lets bytes come behind a file's. The act knows their number alone: the bytes lie in the file, where Turn finds them.
func (d *Disk) extend(f *file, b []byte) {
	n := len(b)
	f.bytes = append(f.bytes, b...)
	d.used += n
	d.loose = append(d.loose, act{of: f, do: func(o outcome, most int) { o.more[f] += min(n, most) }})
}

// unname counts out a file that is about to lose its name.
func (d *Disk) unname(f *file) {
	f.named = false
	d.used -= len(f.bytes)
}

// settle takes the acts of a file, or of the directory, from the loose ones.
func (d *Disk) settle(of *file) {
	d.loose = slices.DeleteFunc(d.loose, func(a act) bool { return a.of == of })
}

// keepFile makes a file's acts sure.
func (d *Disk) keepFile(f *file) {
	f.sure = len(f.bytes)
	d.settle(f)
}

// undoFile undoes a file's loose acts.
func (d *Disk) undoFile(f *file) {
	d.used -= len(f.bytes) - f.sure
	f.bytes = f.bytes[:f.sure]
	d.settle(f)
}

// keepDir makes the directory's acts sure.
func (d *Disk) keepDir() {
	for _, a := range d.loose {
		if a.of == nil {
			a.do(outcome{names: d.sure}, 0)
		}
	}
	d.settle(nil)
	d.forget()
}

// undoDir undoes the directory's loose acts: names come back, too.
func (d *Disk) undoDir() {
	for _, f := range d.now {
		d.unname(f)
	}
	d.now = maps.Clone(d.sure)
	for _, f := range d.now {
		f.named = true
		d.used += len(f.bytes)
	}
	d.settle(nil)
	d.forget()
}

// forget lets go of the bytes of files that have no name and, with no loose act of the directory left, get none any more. Their acts still count.
func (d *Disk) forget() {
	for _, a := range d.loose {
		if !a.of.named {
			a.of.bytes = nil
		}
	}
}

// Crash answers what is there when the power comes back: what is sure, the first keep loose acts, and torn bytes of the next one.
func (d *Disk) Crash(keep, torn int) *Disk {
	if d == nil {
		return nil
	}
	keep = min(max(keep, 0), len(d.loose))
	o := outcome{names: directory{}, more: map[*file]int{}}
	maps.Copy(o.names, d.sure)
	for _, a := range d.loose[:keep] {
		a.do(o, math.MaxInt)
	}
	if keep < len(d.loose) && d.loose[keep].of != nil {
		d.loose[keep].do(o, max(torn, 0))
	}
	return o.disk(d.room)
}

// disk lays what came out on a disk of its own, where all of it is sure.
func (o outcome) disk(room int) *Disk {
	d := &Disk{room: room, now: directory{}}
	for name, f := range o.names {
		n := f.sure + o.more[f]
		d.now[name] = &file{bytes: slices.Clone(f.bytes[:n]), sure: n, named: true}
		d.used += n
	}
	d.sure = maps.Clone(d.now)
	return d
}
