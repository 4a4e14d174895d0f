package diff

import (
	"tussock/api"
	"tussock/object"
)

const leafLevel = 0 // nodes of it are leaves, those of the levels above are branches

// node is a leaf or a branch that was met in one of the maps, or in both.
type node struct {
	api.Link         // what is said of it
	level    int     // the one that it must be of
	on       [2]bool // which of the maps have it
	body     *body   // what it is; nil as long as it was not asked for
}

func (n *node) isShared() bool { return n.on == [2]bool{true, true} }

// body is what a node's bytes say: a leaf's pairs, or a branch. What it has not is empty, so that a leaf is of leafLevel.
type body struct {
	api.Branch
	pairs []api.Pair
}

func takeBody(b string) (*body, bool) {
	if pairs, e := object.TakeLeaf(b); e == api.OK {
		return &body{pairs: pairs}, true
	}
	branch, e := object.TakeBranch(b)
	return &body{Branch: branch}, e == api.OK
}

// link is what a link to it must say, if it has the id.
func (b *body) link(id string) api.Link {
	l := api.Link{Id: id, Many: int64(len(b.pairs))}
	if len(b.pairs) > 0 {
		l.Last = b.pairs[len(b.pairs)-1].Key
	}
	for _, kid := range b.Kids {
		l.Last = kid.Last
		l.Many += kid.Many
	}
	return l
}
