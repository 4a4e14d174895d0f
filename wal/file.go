package wal

import (
	"tussock/api"
	"tussock/disk"
)

// What a log's name is made of; it is short enough that a file's name has room for anew behind it.
const (
	mostName    = 70
	firstInName = '!'
	lastInName  = '~'
)

// anew comes behind a log's name: the file in which it is laid anew, till that one gets the name itself. Nobody reads it under this name.
const anew = "~anew"

// file is what is done to a log's file: each call is done wholly, or leaves the file as it was.
type file struct {
	disk *disk.Disk
	name string
	sure bool // no act of the directory that has to do with the log is loose
}

// read answers all its bytes: none, if it is not there.
func (f *file) read() ([]byte, api.Errno) {
	b, e := f.disk.Read(f.name)
	if e == api.ErrDiskNone {
		return nil, api.OK
	}
	return b, e
}

// beginning answers the first n of its bytes.
func (f *file) beginning(n int) ([]byte, api.Errno) {
	return f.disk.ReadAt(f.name, 0, n)
}

// length is how many bytes it has: none, if it is not there.
func (f *file) length() int {
	return max(f.disk.Size(f.name), 0)
}

// extend lets bytes come behind its own. The directory is synced ahead of them: behind them it would be too late to fail.
func (f *file) extend(b []byte) api.Errno {
	e := f.tidy()
	if e == api.OK {
		e = f.settle()
	}
	if e == api.OK {
		e = f.disk.Append(f.name, b)
	}
	if e == api.OK {
		e = f.disk.Sync(f.name) // which takes the bytes back, if it fails
	}
	return e
}

// replace lays bytes in the place of its own. What it has stays till the directory is synced; a sync that fails brings it back.
func (f *file) replace(b []byte) api.Errno {
	if e := f.tidy(); e != api.OK {
		return e
	}
	f.sure = false
	e := f.disk.Append(f.name+anew, b)
	if e == api.OK {
		e = f.disk.Sync(f.name + anew)
	}
	if e == api.OK {
		e = f.disk.Rename(f.name+anew, f.name)
	}
	if e == api.OK {
		e = f.settle()
	}
	if e != api.OK {
		f.tidy() // it takes up room; if that fails, too, the next call does it
	}
	return e
}

// tidy removes what a crash, or a failure, left while the log was laid anew.
func (f *file) tidy() api.Errno {
	if f.disk.Size(f.name+anew) < 0 {
		return api.OK
	}
	return f.disk.Remove(f.name + anew)
}

// settle syncs the directory, unless that is done.
func (f *file) settle() api.Errno {
	if f.sure {
		return api.OK
	}
	e := f.disk.SyncDir()
	f.sure = e == api.OK
	return e
}
