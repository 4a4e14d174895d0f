package prolly

import (
	"tussock/api"
	"tussock/object"
)

const leafLevel = 0 // nodes of it are leaves, those of the levels above are branches

// node is a leaf, that is its pairs, or a branch. What it has not is empty, so that a leaf is of leafLevel.
type node struct {
	api.Branch
	pairs []api.Pair
}

func takeNode(b string) (node, bool) {
	if pairs, e := object.TakeLeaf(b); e == api.OK {
		return node{pairs: pairs}, true
	}
	branch, e := object.TakeBranch(b)
	return node{Branch: branch}, e == api.OK
}

func (n node) object() (api.Object, api.Errno) {
	if n.Level == leafLevel {
		return object.Leaf(n.pairs...)
	}
	return object.Branch(n.Branch)
}

// last is its last key, or empty, which is no key, of the leaf without pairs.
func (n node) last() string {
	if len(n.Kids) > 0 {
		return n.Kids[len(n.Kids)-1].Last
	}
	if len(n.pairs) > 0 {
		return n.pairs[len(n.pairs)-1].Key
	}
	return ""
}

// many is how many pairs it has, or are below it.
func (n node) many() int64 {
	many := int64(len(n.pairs))
	for _, kid := range n.Kids {
		many += kid.Many
	}
	return many
}

// kidOf is the kid below which a key stands, if it stands anywhere.
func (n node) kidOf(key string) (api.Link, bool) {
	for _, kid := range n.Kids {
		if kid.Last >= key {
			return kid, true
		}
	}
	return api.Link{}, false
}

func (n node) valueOf(key string) (string, bool) {
	for _, p := range n.pairs {
		if p.Key == key {
			return p.Val, true
		}
	}
	return "", false
}
