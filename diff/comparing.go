package diff

import "tussock/api"

// comparing goes down two maps at once, a level at a time, from the highest one on. A node's bytes say its level, so what both maps have they have at one level: when that level is due, all its nodes are known, of both maps, but those below what is shared. So what is shared is told by its id alone, and is not asked for.
type comparing struct {
	get   api.Get
	nodes map[string]*node // all that were met, by their ids
	sides [2]side
}

// side is one of the two maps, as far as it was gone into.
type side struct {
	levels [api.MaxLevel + 1][]*node // those that were met, in order
	pairs  []api.Pair                // those of the leaves that it does not share, in order
}

func (c *comparing) goDown(roots [2]string) api.Errno {
	for i, root := range roots {
		if e := c.beginAt(i, root); e != api.OK {
			return e
		}
	}
	for level := api.MaxLevel; level >= leafLevel; level-- {
		for i := range c.sides {
			if e := c.goThrough(i, level); e != api.OK {
				return e
			}
		}
	}
	return api.OK
}

// beginAt asks for a root ahead of its turn, as nobody but itself says its level. It may be a node of the other map besides.
func (c *comparing) beginAt(i int, root string) api.Errno {
	b, e := c.ask(root)
	if e != api.OK {
		return e
	}
	return c.meet(i, node{Link: b.link(root), level: b.Level, body: b})
}

// meet notes that a side has a node. Within a map an id stands at one place, as the keys below it do; and whoever names it says the same of it.
func (c *comparing) meet(i int, met node) api.Errno {
	n, ok := c.nodes[met.Id]
	if !ok {
		n = &met
		c.nodes[met.Id] = n
	}
	if n.on[i] || n.Link != met.Link || n.level != met.level {
		return api.ErrProllyCorrupt
	}
	n.on[i] = true
	s := &c.sides[i]
	s.levels[n.level] = append(s.levels[n.level], n)
	return api.OK
}

// goThrough goes into those nodes of a side's level that the other side has not.
func (c *comparing) goThrough(i, level int) api.Errno {
	for _, n := range c.sides[i].levels[level] {
		if n.isShared() {
			continue
		}
		if e := c.goInto(i, n); e != api.OK {
			return e
		}
	}
	return api.OK
}

func (c *comparing) goInto(i int, n *node) api.Errno {
	if e := c.read(n); e != api.OK {
		return e
	}
	if !c.sides[i].add(n.body.pairs) {
		return api.ErrProllyCorrupt
	}
	for _, kid := range n.body.Kids {
		if e := c.meet(i, node{Link: kid, level: n.level - 1}); e != api.OK {
			return e
		}
	}
	return api.OK
}

// read asks for a node, unless that was done: it must be as is said of it.
func (c *comparing) read(n *node) api.Errno {
	if n.body != nil {
		return api.OK
	}
	b, e := c.ask(n.Id)
	if e != api.OK {
		return e
	}
	if b.Level != n.level || b.link(n.Id) != n.Link {
		return api.ErrProllyCorrupt
	}
	n.body = b
	return api.OK
}

func (c *comparing) ask(id string) (*body, api.Errno) {
	bytes, e := c.get(id)
	if e != api.OK {
		return nil, e
	}
	b, ok := takeBody(bytes)
	if !ok {
		return nil, api.ErrProllyCorrupt
	}
	return b, api.OK
}

// add adds a leaf's pairs. That they rise within the leaf is known, but not that they stand behind those of the leaves ahead.
func (s *side) add(pairs []api.Pair) bool {
	if len(pairs) > 0 && len(s.pairs) > 0 && pairs[0].Key <= s.pairs[len(s.pairs)-1].Key {
		return false
	}
	s.pairs = append(s.pairs, pairs...)
	return true
}
