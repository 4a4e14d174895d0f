package tree

import (
	"cmp"

	"tussock/api"
	"tussock/diff"
)

// comparing goes through two trees at once, and gathers what became of files. That this is too much is told ahead of all else: an error does not end the going, but where it was met.
type comparing struct {
	reading
	many int // how many entries are to be told, or gone into
	told []told
	err  api.Errno // the first one that was met
}

type told struct {
	*place
	what int
}

func (c *comparing) isTooMuch() bool { return c.many > api.MaxFiles }

func (c *comparing) failed() api.Errno {
	if c.isTooMuch() {
		return api.ErrTreeMany
	}
	return c.err
}

// goInto goes into directories, one or two, that stand at one place.
func (c *comparing) goInto(p *place, dirs sides) {
	within, e := c.within(dirs)
	c.err = cmp.Or(c.err, e)
	for _, s := range within {
		c.many += s.many()
	}
	for _, s := range within {
		if c.isTooMuch() {
			return
		}
		c.compare(&place{Entry: api.Entry{Name: s.name()}, up: p}, s)
	}
}

// compare tells of the file first, as its path stands ahead of all that is within a directory of that name.
func (c *comparing) compare(p *place, s sides) {
	if what := s.what(); what != 0 {
		c.told = append(c.told, told{p, what})
	}
	if dirs := s.dirs(); dirs != (sides{}) {
		c.goInto(p, dirs)
	}
}

// within is what directories do not have in common; what one alone has is all of it.
func (c *comparing) within(dirs sides) ([]sides, api.Errno) {
	if dirs.was.Kind != 0 && dirs.now.Kind != 0 {
		return c.between(dirs)
	}
	entries, e := c.entries(cmp.Or(dirs.was, dirs.now))
	var out []sides
	for _, x := range entries {
		if dirs.was.Kind != 0 {
			out = append(out, sides{was: x})
		} else {
			out = append(out, sides{now: x})
		}
	}
	return out, e
}

// between is what two directories do not have in common. It is found without looking at what they share, so each is listed besides: it must be there whole, and as it must be in all that it has.
func (c *comparing) between(dirs sides) ([]sides, api.Errno) {
	for _, dir := range [...]api.Entry{dirs.was, dirs.now} {
		if _, e := c.entries(dir); e != api.OK {
			return nil, e
		}
	}
	changes, e := diff.Maps(c.get, dirs.was.Id, dirs.now.Id)
	if e != api.OK {
		return nil, e
	}
	var out []sides
	for _, x := range changes {
		s, e := takeSides(x)
		if e != api.OK {
			return nil, e
		}
		out = append(out, s)
	}
	return out, api.OK
}
