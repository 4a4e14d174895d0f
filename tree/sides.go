package tree

import (
	"cmp"

	"tussock/api"
)

// sides are what two trees have under one name: entries, or nothing, which has no Kind.
type sides struct{ was, now api.Entry }

func takeSides(x api.Change) (sides, api.Errno) {
	var s sides
	var e1, e2 api.Errno
	if x.Had {
		s.was, e1 = takeEntry(x.Key, x.Was)
	}
	if x.Has {
		s.now, e2 = takeEntry(x.Key, x.Now)
	}
	return s, cmp.Or(e1, e2)
}

func (s sides) name() string { return cmp.Or(s.was.Name, s.now.Name) }

// what is what became of the file, or 0, if there was none and is none.
func (s sides) what() int {
	was, now := s.was.Kind == api.KFile, s.now.Kind == api.KFile
	switch {
	case was && now:
		return api.Changed
	case was:
		return api.Removed
	case now:
		return api.Added
	}
	return 0
}

// many is how many entries are to be told, or gone into.
func (s sides) many() int {
	n := 0
	if s.what() != 0 {
		n++
	}
	if s.dirs() != (sides{}) {
		n++
	}
	return n
}

// dirs are the sides that are directories.
func (s sides) dirs() sides {
	var out sides
	if s.was.Kind == api.KDir {
		out.was = s.was
	}
	if s.now.Kind == api.KDir {
		out.now = s.now
	}
	return out
}
