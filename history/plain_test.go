package history_test

import (
	"slices"

	"tussock/api"
	"tussock/object"
)

// plain does what the chapter's words say, by lists that are gone through again and again, and notes what is read.
type plain struct {
	*shelf
	read []string
}

// plainWalk is one under way: the commits that are there, those that were taken of them, and these in order.
type plainWalk struct {
	there map[string]api.Commit
	gone  map[string]bool
	taken []string
}

func (p *plain) come(w *plainWalk, ids []string) api.Errno {
	for _, id := range ids {
		if _, ok := w.there[id]; ok {
			continue
		}
		if len(w.there)+1 > 4096 {
			return 190
		}
		p.read = append(p.read, id)
		b, e := p.look(id)
		if e != 0 {
			return e
		}
		c, e := object.TakeCommit(b)
		if e != 0 {
			return 81
		}
		w.there[id] = c
	}
	return 0
}

// next is the latest one that is there and was not taken.
func (w *plainWalk) next() (string, bool) {
	best, any := "", false
	for id := range w.there {
		if !w.gone[id] && (!any || w.later(id, best)) {
			best, any = id, true
		}
	}
	return best, any
}

// walk goes on till what was taken is enough.
func (p *plain) walk(enough func(taken []string) bool, from ...string) (*plainWalk, api.Errno) {
	w := &plainWalk{there: map[string]api.Commit{}, gone: map[string]bool{}}
	if enough(nil) {
		return w, 0
	}
	if e := p.come(w, from); e != 0 {
		return nil, e
	}
	for {
		id, ok := w.next()
		if !ok {
			return w, 0
		}
		w.gone[id] = true
		w.taken = append(w.taken, id)
		if enough(w.taken) {
			return w, 0
		}
		if e := p.come(w, w.there[id].Parents); e != 0 {
			return nil, e
		}
	}
}

func (p *plain) log(most int, from ...string) ([]string, api.Errno) {
	if most < 0 {
		return nil, 2
	}
	w, e := p.walk(func(taken []string) bool { return len(taken) == most }, from...)
	if e != 0 {
		return nil, e
	}
	return w.taken, 0
}

func (p *plain) above(a, b string) (bool, api.Errno) {
	if a == b {
		return true, 0
	}
	w, e := p.walk(func(taken []string) bool { return slices.Contains(taken, b) }, a)
	if e != 0 {
		return false, e
	}
	return slices.Contains(w.taken, b), 0
}

func (p *plain) base(a, b string) (string, api.Errno) {
	never := func([]string) bool { return false }
	one, e := p.walk(never, a)
	if e != 0 {
		return "", e
	}
	other, e := p.walk(never, b)
	if e != 0 {
		return "", e
	}
	var both []string
	for _, id := range one.taken {
		if slices.Contains(other.taken, id) {
			both = append(both, id)
		}
	}
	best := ""
	for _, x := range both {
		reached := slices.ContainsFunc(both, func(y string) bool { return x != y && slices.Contains(one.backFrom(y), x) })
		if !reached && (best == "" || one.later(x, best)) {
			best = x
		}
	}
	return best, 0
}

func (w *plainWalk) later(x, y string) bool {
	a, b := w.there[x].Time, w.there[y].Time
	return a > b || a == b && x > y
}

// backFrom are all to which one goes back.
func (w *plainWalk) backFrom(id string) []string {
	var all []string
	next := slices.Clone(w.there[id].Parents)
	for len(next) > 0 {
		p := next[0]
		next = next[1:]
		if !slices.Contains(all, p) {
			all = append(all, p)
			next = append(next, w.there[p].Parents...)
		}
	}
	return all
}
