package blob

import (
	"strings"

	"tussock/api"
)

// placed is a part, and the place in the file where it begins.
type placed struct {
	api.Part
	at int64
}

func (p placed) begin() int64 { return p.at }

func (p placed) end() int64 { return p.at + p.Size }

// reading goes to the bytes from a place on up to another one, and gathers them.
type reading struct {
	asking
	from, to int64
	data     []byte
}

// goTo goes to those of the bytes that a part has, if it has any.
func (r *reading) goTo(p placed, level int) api.Errno {
	from, to := max(r.from, p.begin()), min(r.to, p.end())
	if from >= to {
		return api.OK
	}
	n, e := r.ask(p.Part, level)
	if e != api.OK {
		return e
	}
	if n.Level == chunkLevel {
		r.data = append(r.data, n.data[from-p.begin():to-p.begin()]...)
		return api.OK
	}
	next := p.begin
	for _, kid := range n.Kids {
		k := placed{Part: kid, at: next()}
		if e := r.goTo(k, n.Level-1); e != api.OK {
			return e
		}
		next = k.end // a part begins where the one ahead of it ends
	}
	return api.OK
}

// listing goes through all fans, and gathers the chunks that they name.
type listing struct {
	asking
	chunks []api.Part
}

// goThrough goes through a part that may have more than one chunk. A root that is a chunk is asked for, as nothing else says what it is; other chunks are not.
func (l *listing) goThrough(p api.Part, level int) api.Errno {
	n, e := l.ask(p, level)
	if e != api.OK {
		return e
	}
	switch n.Level {
	case chunkLevel:
		l.chunks = append(l.chunks, api.Part{Id: strings.Clone(p.Id), Size: p.Size})
	case chunkLevel + 1:
		l.chunks = append(l.chunks, n.Kids...)
	default:
		return l.goThroughEach(n.Kids, n.Level-1)
	}
	return api.OK
}

func (l *listing) goThroughEach(fans []api.Part, level int) api.Errno {
	for _, p := range fans {
		if e := l.goThrough(p, level); e != api.OK {
			return e
		}
	}
	return api.OK
}
