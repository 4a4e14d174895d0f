package prolly

import (
	"tussock/api"
	"tussock/hash"
)

// A node ends behind a key of whose sum the byte of the node's level is a multiple of this: keys say it, not places, so that a change moves the ends near it alone.
const nodeEnd = 16

// building makes a map's objects, each id once.
type building struct {
	objects []api.Object
	laid    map[string]struct{}
}

// layMap lays all objects of a map: its root.
func (b *building) layMap(pairs []api.Pair) api.Link {
	b.laid = map[string]struct{}{}
	nodes := b.layLeaves(pairs)
	for level := leafLevel + 1; len(nodes) > 1; level++ {
		nodes = b.layBranches(level, nodes)
	}
	return nodes[0]
}

// layLeaves lays the nodes of leafLevel. A map without pairs has one, too.
func (b *building) layLeaves(pairs []api.Pair) []api.Link {
	if len(pairs) == 0 {
		return []api.Link{b.lay(node{})}
	}
	var nodes []api.Link
	for len(pairs) > 0 {
		n := nodeSize(leafLevel, pairs, func(p api.Pair) string { return p.Key })
		nodes = append(nodes, b.lay(node{pairs: pairs[:n]}))
		pairs = pairs[n:]
	}
	return nodes
}

// layBranches lays the nodes of a level over those of the one below.
func (b *building) layBranches(level int, below []api.Link) []api.Link {
	var nodes []api.Link
	for len(below) > 0 {
		n := nodeSize(level, below, func(l api.Link) string { return l.Last })
		nodes = append(nodes, b.lay(node{Branch: api.Branch{Level: level, Kids: below[:n]}}))
		below = below[n:]
	}
	return nodes
}

// lay lays a node's object, if it was not laid yet: the link to it.
func (b *building) lay(n node) api.Link {
	o, _ := n.object() // pairs were asked whether they are right; of at most 4096 leaves there are not too many levels, as each group but the last one has two nodes or more
	if _, ok := b.laid[o.Id]; !ok {
		b.laid[o.Id] = struct{}{}
		b.objects = append(b.objects, o)
	}
	return api.Link{Last: n.last(), Id: o.Id, Many: n.many()}
}

// nodeSize is how many of the items, pairs or links, make the first node of a level.
func nodeSize[T any](level int, items []T, key func(T) string) int {
	most := min(len(items), api.MaxNode)
	for n := leastSize(level); n < most; n++ {
		if endsNode(level, key(items[n-1])) {
			return n
		}
	}
	return most
}

// leastSize is how many items a node has at least behind which others come: a branch over one node alone would bring the root no nearer.
func leastSize(level int) int {
	if level == leafLevel {
		return 1
	}
	return 2
}

// endsNode asks another byte at each level, as the keys that end nodes of a level have that level's byte alike.
func endsNode(level int, key string) bool {
	return hash.Sum(key)[api.IdSize-1-level]%nodeEnd == 0
}
