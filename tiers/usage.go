package tiers

import (
	"cmp"
	"slices"
	"strings"
)

// use is the last use of an object: which one of all uses it was, counted from 1 on, and how many bytes the object has.
type use struct{ number, size int }

// usage says which objects were used when. It forgets none that goes: laid there again by others it was used all the same.
type usage struct {
	uses map[string]use
	many int // uses there were
}

func newUsage() usage { return usage{uses: map[string]use{}} }

// note takes note of a use.
func (u *usage) note(id string, size int) {
	u.many++
	u.uses[strings.Clone(id)] = use{u.many, size} // the id may be a piece of some great text
}

// sorted puts rising ids into the order in which they were used, those that never were first.
func (u *usage) sorted(ids []string) []string {
	slices.SortStableFunc(ids, func(a, b string) int { return cmp.Compare(u.uses[a].number, u.uses[b].number) })
	return ids
}
