package history

import (
	"container/heap"
	"iter"
	"strings"

	"tussock/api"
)

// walk goes from commits to those that they come from. Of those that are there, some wait to be taken.
type walk struct {
	waiting
	get   api.Get
	there map[string]struct{}
}

// add reads commits that are to be there. It copies ids, as what is taken is handed out.
func (w *walk) add(ids ...string) api.Errno {
	for _, id := range ids {
		if _, ok := w.there[id]; ok {
			continue
		}
		if len(w.there) == api.MaxLog {
			return api.ErrHistoryLong
		}
		id = strings.Clone(id)
		c, e := Read(w.get, id)
		if e != api.OK {
			return e
		}
		w.there[id] = struct{}{}
		heap.Push(w, commit{id, c.Time, c.Parents})
	}
	return api.OK
}

// taken goes through the commits that a walk takes. An error ends it, beside no commit.
func taken(get api.Get, from ...string) iter.Seq2[commit, api.Errno] {
	return func(yield func(commit, api.Errno) bool) {
		w := &walk{get: get, there: map[string]struct{}{}}
		e := w.add(from...)
		for e == api.OK && w.Len() > 0 {
			c := heap.Pop(w).(commit)
			if !yield(c, api.OK) {
				return
			}
			e = w.add(c.parents...)
		}
		if e != api.OK {
			yield(commit{}, e)
		}
	}
}

// allTaken are the commits that a whole walk takes.
func allTaken(get api.Get, from ...string) ([]commit, api.Errno) {
	var all []commit
	for c, e := range taken(get, from...) {
		if e != api.OK {
			return nil, e
		}
		all = append(all, c)
	}
	return all, api.OK
}
