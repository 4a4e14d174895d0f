package prolly

import (
	"iter"

	"tussock/api"
)

// asking asks a get for nodes.
type asking struct{ get api.Get }

// ask is the node that an id stands for, of whatever level.
func (a asking) ask(id string) (node, api.Errno) {
	if a.get == nil {
		return node{}, api.ErrNil
	}
	b, e := a.get(id)
	if e != api.OK {
		return node{}, e
	}
	n, ok := takeNode(b)
	if !ok {
		return node{}, api.ErrProllyCorrupt
	}
	return n, api.OK
}

// askKid is the node that a link stands for: it must be of the level, and as the link says.
func (a asking) askKid(l api.Link, level int) (node, api.Errno) {
	n, e := a.ask(l.Id)
	if e != api.OK {
		return node{}, e
	}
	if n.Level != level || n.last() != l.Last || n.many() != l.Many {
		return node{}, api.ErrProllyCorrupt
	}
	return n, api.OK
}

// span says which keys are gone to: those from lo on, ahead of hi, if that is not empty.
type span struct{ lo, hi string }

func (s span) begunAt(key string) bool { return key >= s.lo }

func (s span) endedAt(key string) bool { return s.hi != "" && key >= s.hi }

// through goes through the pairs of a map whose keys are in a span. A node is asked for when its first pair is due, as whoever leaves early must not wait for the others.
func through(get api.Get, root string, s span) iter.Seq2[api.Pair, api.Errno] {
	return func(yield func(api.Pair, api.Errno) bool) {
		g := going{asking: asking{get}, span: s, yield: yield}
		n, e := g.ask(root)
		g.goInto(n, e)
	}
}

// going goes through nodes and tells pairs till an error ends it, or whoever is told does.
type going struct {
	asking
	span
	yield func(api.Pair, api.Errno) bool
	told  string // the last key that was told; ahead of the first one empty, which stands ahead of all keys
}

// goInto goes through a node that was asked for, and tells whether to go on behind it.
func (g *going) goInto(n node, e api.Errno) bool {
	if e != api.OK {
		return g.fail(e)
	}
	return g.tellPairs(n.pairs) && g.goToKids(n)
}

func (g *going) goToKids(n node) bool {
	for _, kid := range n.Kids {
		if g.begunAt(kid.Last) && !g.goInto(g.askKid(kid, n.Level-1)) {
			return false
		}
		if g.endedAt(kid.Last) {
			break
		}
	}
	return true
}

// tellPairs tells those of a leaf's pairs that are in the span. That they rise within the leaf is known, but not that they stand behind those of the leaves ahead.
func (g *going) tellPairs(pairs []api.Pair) bool {
	for _, p := range pairs {
		if !g.begunAt(p.Key) || g.endedAt(p.Key) {
			continue
		}
		if p.Key <= g.told {
			return g.fail(api.ErrProllyCorrupt)
		}
		g.told = p.Key
		if !g.yield(p, api.OK) {
			return false
		}
	}
	return true
}

// fail tells an error, which ends it whatever who is told says.
func (g *going) fail(e api.Errno) bool {
	g.yield(api.Pair{}, e)
	return false
}
