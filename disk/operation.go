package disk

import (
	"slices"
	"strings"

	"tussock/api"
)

// begin numbers an operation, and tells whether it is a failing one. The one at which the power goes is not numbered, as none is behind it.
func (d *Disk) begin() (bool, api.Errno) {
	if d == nil {
		return false, api.ErrNil
	}
	if d.cuts && d.ops >= d.cut {
		return false, api.ErrDiskOff
	}
	if d.now == nil { // nothing was done to it yet
		d.now, d.sure = directory{}, directory{}
	}
	_, fails := d.fails[d.ops]
	delete(d.fails, d.ops)
	d.ops++
	return fails, api.OK
}

// beginOn begins an operation on a file that must be there.
func (d *Disk) beginOn(name string) (*file, bool, api.Errno) {
	fails, e := d.begin()
	if e != api.OK {
		return nil, false, e
	}
	if !isName(name) {
		return nil, false, api.ErrDiskName
	}
	f := d.now[name]
	if f == nil {
		return nil, false, api.ErrDiskNone
	}
	return f, fails, api.OK
}

// isName tells whether a text can be a file's name.
func isName(name string) bool {
	if len(name) < 1 || len(name) > 80 {
		return false
	}
	for i := range len(name) {
		if name[i] < 33 || name[i] > 126 {
			return false
		}
	}
	return true
}

// Append lets bytes come behind those of a file, which is made, if it is not there.
func (d *Disk) Append(name string, b []byte) api.Errno {
	fails, e := d.begin()
	switch {
	case e != api.OK:
		return e
	case !isName(name):
		return api.ErrDiskName
	case len(b) > 0 && len(b) > d.room-d.used: // there may be more than room already
		return api.ErrDiskFull
	case fails:
		return api.ErrDiskIO
	}
	f := d.now[name]
	if f == nil {
		f = d.made(name)
	}
	if len(b) > 0 {
		d.extend(f, b)
	}
	return api.OK
}

// Read answers all bytes of a file.
func (d *Disk) Read(name string) ([]byte, api.Errno) {
	f, fails, e := d.beginOn(name)
	if e != api.OK {
		return nil, e
	}
	if fails {
		return nil, api.ErrDiskIO
	}
	return slices.Clone(f.bytes), api.OK
}

// ReadAt answers n bytes of a file, from the place at on.
func (d *Disk) ReadAt(name string, at, n int) ([]byte, api.Errno) {
	f, fails, e := d.beginOn(name)
	switch {
	case e != api.OK:
		return nil, e
	case at < 0 || n < 0 || at > len(f.bytes) || n > len(f.bytes)-at:
		return nil, api.ErrArg
	case fails:
		return nil, api.ErrDiskIO
	}
	return slices.Clone(f.bytes[at : at+n]), api.OK
}

// Sync makes a file's bytes sure; if it fails, those that were not are gone.
func (d *Disk) Sync(name string) api.Errno {
	f, fails, e := d.beginOn(name)
	if e != api.OK {
		return e
	}
	if fails {
		d.undoFile(f)
		return api.ErrDiskIO
	}
	d.keepFile(f)
	return api.OK
}

// SyncDir makes the directory sure; if it fails, it is what it was when it was sure.
func (d *Disk) SyncDir() api.Errno {
	fails, e := d.begin()
	if e != api.OK {
		return e
	}
	if fails {
		d.undoDir()
		return api.ErrDiskIO
	}
	d.keepDir()
	return api.OK
}

// Rename gives a file another name, and takes that one from the file that had it.
func (d *Disk) Rename(from, to string) api.Errno {
	fails, e := d.begin()
	switch {
	case e != api.OK:
		return e
	case !isName(from) || !isName(to):
		return api.ErrDiskName
	case d.now[from] == nil:
		return api.ErrDiskNone
	case fails:
		return api.ErrDiskIO
	case from == to:
		return api.OK
	}
	if f := d.now[to]; f != nil {
		d.unname(f)
	}
	from, to = strings.Clone(from), strings.Clone(to)
	d.change(func(names directory) {
		names[to] = names[from]
		delete(names, from)
	})
	return api.OK
}

// Remove takes the name from a file.
func (d *Disk) Remove(name string) api.Errno {
	f, fails, e := d.beginOn(name)
	if e != api.OK {
		return e
	}
	if fails {
		return api.ErrDiskIO
	}
	d.unname(f)
	name = strings.Clone(name)
	d.change(func(names directory) { delete(names, name) })
	return api.OK
}
