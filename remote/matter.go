package remote

import (
	"slices"

	"tussock/api"
)

// matter is what one call has to bring about, for each of some ids.
type matter struct {
	ids []string            // each once, in the order in which they were told first
	due map[string]struct{} // those for which it is still to be done
}

func newMatter(ids []string) matter {
	m := matter{ids: once(ids), due: map[string]struct{}{}}
	for _, id := range m.ids {
		m.due[id] = struct{}{}
	}
	return m
}

func (m *matter) isDue(id string) bool {
	_, is := m.due[id]
	return is
}

func (m *matter) done(id string) { delete(m.due, id) }

// dueOf are those of a piece that are due.
func (m *matter) dueOf(piece []string) []string {
	var due []string
	for _, id := range piece {
		if m.isDue(id) {
			due = append(due, id)
		}
	}
	return due
}

// settle goes through the pieces, and asks again and again for those of each that are due.
func (m *matter) settle(ask func(due []string) api.Errno) api.Errno {
	for piece := range slices.Chunk(m.ids, mostEach) {
		if e := m.settlePiece(piece, ask); e != api.OK {
			return e
		}
	}
	return api.OK
}

func (m *matter) settlePiece(piece []string, ask func(due []string) api.Errno) api.Errno {
	due := m.dueOf(piece)
	for range api.MaxRetry {
		if len(due) == 0 {
			return api.OK
		}
		if e := ask(due); e != api.OK {
			return e
		}
		due = m.dueOf(piece)
	}
	if len(due) > 0 {
		return api.ErrRemoteUnavailable
	}
	return api.OK
}

// once are ids, each once, in the order in which they are told first.
func once(ids []string) []string {
	seen := map[string]struct{}{}
	var out []string
	for _, id := range ids {
		if _, was := seen[id]; !was {
			seen[id] = struct{}{}
			out = append(out, id)
		}
	}
	return out
}
