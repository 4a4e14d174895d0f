package history

import (
	"cmp"
	"slices"
)

// commit is what a walk needs of one.
type commit struct {
	id      string
	time    int64
	parents []string
}

// byTime holds two commits against each other: the later one is the greater one.
func byTime(a, b commit) int {
	return cmp.Or(cmp.Compare(a.time, b.time), cmp.Compare(a.id, b.id))
}

// common are the commits that two lists have.
func common(ours, theirs []commit) []commit {
	mine := map[string]struct{}{}
	for _, c := range ours {
		mine[c.id] = struct{}{}
	}
	var both []commit
	for _, c := range theirs {
		if _, ok := mine[c.id]; ok {
			both = append(both, c)
		}
	}
	return both
}

// tops are the commits of a list to which no other one of it goes back. The list must have the parents of all that it has: then one that another one goes back to is the parent of another one, too, and nothing further needs a look.
func tops(list []commit) []commit {
	below := map[string]struct{}{}
	for _, c := range list {
		for _, p := range c.parents {
			if p != c.id {
				below[p] = struct{}{}
			}
		}
	}
	return slices.DeleteFunc(list, func(c commit) bool {
		_, ok := below[c.id]
		return ok
	})
}

// latest is no commit, if there is none.
func latest(list []commit) commit {
	if len(list) == 0 {
		return commit{}
	}
	return slices.MaxFunc(list, byTime)
}
