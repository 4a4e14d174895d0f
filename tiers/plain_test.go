package tiers_test

import (
	"maps"
	"slices"

	"tussock/api"
	"tussock/hash"
)

// shelf is a store as chapter 9's words say it, with what may hinder it.
type shelf struct {
	has    map[string]string
	turned map[string]bool
	full   bool // nothing can be laid
	off    bool // nothing can be done at all
}

func (s *shelf) get(id string) (string, api.Errno) {
	text, has := s.has[id]
	switch {
	case !has:
		return "", api.ErrMissing
	case s.off:
		return "", api.ErrDiskOff
	case s.turned[id]:
		return "", api.ErrStoreCorrupt
	}
	return text, api.OK
}

func (s *shelf) holds(id string) bool {
	_, has := s.has[id]
	return has
}

func (s *shelf) put(o api.Object) api.Errno {
	switch {
	case s.off:
		return api.ErrDiskOff
	case s.full:
		return api.ErrDiskFull
	}
	s.has[o.Id] = o.Bytes
	return api.OK
}

// keep lets these alone stay; at least one goes.
func (s *shelf) keep(ids []string) api.Errno {
	for _, id := range ids {
		if _, e := s.get(id); e != api.OK {
			return e
		}
	}
	switch {
	case s.off:
		return api.ErrDiskOff
	case s.full:
		return api.ErrDiskFull
	}
	for id := range s.has {
		if !slices.Contains(ids, id) {
			delete(s.has, id)
			delete(s.turned, id)
		}
	}
	return api.OK
}

func (s *shelf) bytes() int {
	n := 0
	for _, text := range s.has {
		n += len(text)
	}
	return n
}

// plain is tiers as the chapter's words say it: lists that are gone through and weighed anew each time.
type plain struct {
	own, near    *shelf
	cache        []api.Object // memory's, the one used last last
	uses         []string     // ids that were used, in order, some of them more often
	memory, disk int
	far          func(ids ...string) ([]api.Object, api.Errno)
}

func (p *plain) isHere(id string) bool { return p.own.holds(id) || p.near.holds(id) }

func (p *plain) drop(id string) {
	p.cache = slices.DeleteFunc(p.cache, func(o api.Object) bool { return o.Id == id })
}

// remember puts an object into memory, if it takes it.
func (p *plain) remember(o api.Object) {
	weight := func() int {
		n := 0
		for _, x := range p.cache {
			n += len(x.Id + x.Bytes)
		}
		return n
	}
	if len(o.Id+o.Bytes) > p.memory {
		return
	}
	p.drop(o.Id)
	p.cache = append(p.cache, o)
	for weight() > p.memory {
		p.cache = p.cache[1:]
	}
}

func (p *plain) used() []string {
	var never, was []string
	for _, id := range slices.Sorted(maps.Keys(p.near.has)) {
		if !slices.Contains(p.uses, id) {
			never = append(never, id)
		}
	}
	for i, id := range p.uses {
		if p.near.holds(id) && !slices.Contains(p.uses[i+1:], id) {
			was = append(was, id)
		}
	}
	return append(never, was...)
}

func (p *plain) keep(o api.Object) {
	if p.near.holds(o.Id) || len(o.Bytes) > p.disk {
		return
	}
	if p.near.bytes()+len(o.Bytes) > p.disk {
		order, n := p.used(), p.near.bytes()
		for n+len(o.Bytes) > p.disk {
			n -= len(p.near.has[order[0]])
			order = order[1:]
		}
		if p.near.keep(order) != api.OK {
			return
		}
	}
	if p.near.put(o) == api.OK {
		p.uses = append(p.uses, o.Id)
	}
}

// ask is what counts of what far answers.
func (p *plain) ask(ids ...string) ([]api.Object, api.Errno) {
	if p.far == nil {
		return nil, api.ErrMissing
	}
	objs, e := p.far(ids...)
	if e != api.OK {
		return nil, e
	}
	return slices.DeleteFunc(slices.Clone(objs), func(o api.Object) bool {
		return !slices.Contains(ids, o.Id) || len(o.Bytes) > 32768 || hash.Sum(o.Bytes) != o.Id
	}), api.OK
}

func (p *plain) get(id string) (string, api.Errno) {
	text, e := p.find(id)
	if e == api.OK && p.near.holds(id) {
		p.uses = append(p.uses, id)
	}
	return text, e
}

func (p *plain) find(id string) (string, api.Errno) {
	if p.isHere(id) {
		for _, o := range p.cache {
			if o.Id == id {
				p.remember(o)
				return o.Bytes, api.OK
			}
		}
		s := p.near
		if p.own.holds(id) {
			s = p.own
		}
		text, e := s.get(id)
		if e == api.OK {
			p.remember(api.Object{Id: id, Bytes: text})
			return text, api.OK
		}
		if e != api.ErrStoreCorrupt || s == p.own {
			return "", e
		}
		others := slices.DeleteFunc(slices.Collect(maps.Keys(s.has)), func(x string) bool { return x == id })
		if e := s.keep(others); e != api.OK {
			return "", e
		}
	}
	p.drop(id)
	objs, e := p.ask(id)
	if e != api.OK {
		return "", e
	}
	if len(objs) == 0 {
		return "", api.ErrMissing
	}
	p.keep(objs[0])
	if p.isHere(id) {
		p.remember(objs[0])
	}
	return objs[0].Bytes, api.OK
}

func (p *plain) fetch(ids ...string) api.Errno {
	var missing []string
	for _, id := range ids {
		if !p.isHere(id) && !slices.Contains(missing, id) {
			missing = append(missing, id)
		}
	}
	if len(missing) == 0 {
		return api.OK
	}
	objs, e := p.ask(missing...)
	if e != api.OK {
		return e
	}
	for _, o := range objs {
		p.keep(o)
	}
	for _, id := range missing {
		if !slices.ContainsFunc(objs, func(o api.Object) bool { return o.Id == id }) {
			return api.ErrMissing
		}
	}
	return api.OK
}

// keys are memory's, the one used last first.
func (p *plain) keys() []string {
	var out []string
	for _, o := range slices.Backward(p.cache) {
		out = append(out, o.Id)
	}
	return out
}
