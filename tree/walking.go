package tree

import (
	"slices"

	"tussock/api"
)

// walking goes through entries in order, and gathers the files. Where these stand is told at the end alone, as directories may be named within one another without end.
type walking struct {
	reading
	met   int
	due   []*place // those that are to be met, the next one last
	files []*place
}

// goThrough goes through what stands at a place, which itself is not met by that.
func (w *walking) goThrough(p *place) api.Errno {
	e := w.goInto(p)
	for e == api.OK && len(w.due) > 0 {
		w.met++
		if w.met > api.MaxFiles {
			return api.ErrTreeMany
		}
		e = w.goInto(w.takeNext())
	}
	return e
}

func (w *walking) takeNext() *place {
	last := len(w.due) - 1
	p := w.due[last]
	w.due = w.due[:last]
	return p
}

// goInto gathers a file; what stands in a directory is due ahead of all else.
func (w *walking) goInto(p *place) api.Errno {
	if p.Kind == api.KFile {
		w.files = append(w.files, p)
		return api.OK
	}
	entries, e := w.entries(p.Entry)
	for _, x := range slices.Backward(entries) {
		w.due = append(w.due, &place{Entry: x, up: p})
	}
	w.forgetLate()
	return e
}

// forgetLate forgets what is due so late that it is never met, as there may be very much of it.
func (w *walking) forgetLate() {
	most := api.MaxFiles + 1 - w.met
	w.due = slices.Delete(w.due, 0, max(0, len(w.due)-most))
}
