package tree

import (
	"slices"
	"strings"

	"tussock/api"
)

// place is an entry, and where it stands. A root has no name, and stands in nothing.
type place struct {
	api.Entry
	up *place            // the directory in which it stands
	in map[string]*place // what stands in a directory that one came into to edit it; of all others nil
}

func (p *place) isRoot() bool { return p.up == nil }

// path is joined here, and not by package path, as somebody may have laid directories that lie deeper than a path has names.
func (p *place) path() string {
	var names []string
	for ; !p.isRoot(); p = p.up {
		names = append(names, p.Name)
	}
	slices.Reverse(names)
	return strings.Join(names, "/")
}

// lay lays an entry into a directory that one came into, in the place of what stood there.
func (p *place) lay(x api.Entry) *place {
	kid := &place{Entry: x, up: p}
	p.in[x.Name] = kid
	return kid
}

// takeAway takes away what stands under a name, and each directory that is empty by that.
func (p *place) takeAway(name string) {
	delete(p.in, name)
	if len(p.in) == 0 && !p.isRoot() {
		p.up.takeAway(p.Name)
	}
}
