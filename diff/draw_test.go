package diff_test

import (
	"maps"
	"math/rand"
	"slices"

	"tussock/api"
	"tussock/object"
)

// draw says what drawn maps are made of.
type draw struct{ *rand.Rand }

// key is one of few, so that they meet.
func (r draw) key() string {
	if r.Intn(30) == 0 {
		return repeated('b', 62+r.Intn(3))
	}
	b := make([]byte, 1+r.Intn(3))
	for i := range b {
		b[i] = "\x00abcdefgh\xff"[r.Intn(10)]
	}
	return string(b)
}

// pairs are up to n, by rising keys.
func (r draw) pairs(n int) []api.Pair {
	byKey := map[string]string{}
	for range n {
		byKey[r.key()] = drawn(r.Rand, r.Intn(4))
	}
	return sorted(byKey)
}

// edited are pairs with some of them laid or taken away.
func (r draw) edited(pairs []api.Pair) []api.Pair {
	byKey := map[string]string{}
	for _, p := range pairs {
		byKey[p.Key] = p.Val
	}
	for range r.Intn(1 + r.Intn(30)) {
		k := r.key()
		if len(pairs) > 0 && r.Intn(2) == 0 {
			k = pairs[r.Intn(len(pairs))].Key
		}
		if r.Intn(3) == 0 {
			delete(byKey, k)
		} else {
			byKey[k] = drawn(r.Rand, r.Intn(3))
		}
	}
	return sorted(byKey)
}

// groups are pieces of a row, of sizes that a shape says.
func groups[T any](shape draw, row []T, most int) [][]T {
	var out [][]T
	for len(row) > 0 {
		n := min(len(row), 1+shape.Intn(most))
		out = append(out, row[:n])
		row = row[n:]
	}
	return out
}

// tree lays a map of another shape than prolly gives it: groups of any size, and towers above them. There are few shapes, so that trees share nodes.
func (r draw) tree(s *shelf, pairs []api.Pair) string {
	if len(pairs) == 0 {
		return s.build()
	}
	shape := draw{rand.New(rand.NewSource(int64(r.Intn(3))))}
	var row []api.Link
	for _, g := range groups(shape, pairs, 2+r.Intn(3)) {
		row = append(row, s.leaf(g...))
	}
	for level := 1; len(row) > 1 || level <= 20 && r.Intn(3) == 0; level++ {
		var above []api.Link
		for _, g := range groups(shape, row, r.most(level)) {
			above = append(above, s.branch(level, g...))
		}
		row = above
	}
	return row[0].Id
}

// most is how many kids a branch has at most: few, but in the end enough.
func (r draw) most(level int) int {
	if level > 8 {
		return 64
	}
	return 2 + r.Intn(4)
}

// errorsOfGet are what gets answer: numbers of others, of this layer's own, of nobody.
var errorsOfGet = []api.Errno{api.ErrNil, api.ErrArg, api.ErrMissing, api.ErrProllyForm, api.ErrProllyCorrupt, api.ErrStoreCorrupt, api.ErrRemoteUnavailable, 9999, -1}

// harm breaks some of what lies on a shelf.
func (r draw) harm(s *shelf) {
	ids := slices.Sorted(maps.Keys(s.has))
	for range 1 + r.Intn(3) {
		id := ids[r.Intn(len(ids))]
		was := s.has[id]
		switch r.Intn(6) {
		case 0:
			delete(s.has, id)
		case 1:
			s.errs[id] = errorsOfGet[r.Intn(len(errorsOfGet))]
		case 2:
			s.has[id] = s.has[ids[r.Intn(len(ids))]]
		case 3:
			b := []byte(was)
			if len(b) > 0 {
				b[r.Intn(len(b))] ^= byte(1 + r.Intn(255))
			}
			s.has[id] = string(b)
		case 4:
			s.has[id] = was[:r.Intn(len(was)+1)] + drawn(r.Rand, r.Intn(3))
		case 5:
			s.has[id] = r.changed(was, ids)
		}
	}
}

// changed is another leaf or branch, in one way, than bytes say, if there is one that is right.
func (r draw) changed(b string, ids []string) string {
	if pairs, e := object.TakeLeaf(b); e == api.OK && len(pairs) > 0 {
		pairs[r.Intn(len(pairs))].Key = r.key()
		o, _ := object.Leaf(pairs...)
		return o.Bytes
	}
	x, e := object.TakeBranch(b)
	if e != api.OK {
		return "L\x00"
	}
	kid := &x.Kids[r.Intn(len(x.Kids))]
	switch r.Intn(4) {
	case 0:
		kid.Last = r.key()
	case 1:
		kid.Many += int64(r.Intn(3) - 1)
	case 2:
		kid.Id = ids[r.Intn(len(ids))]
	case 3:
		x.Level += r.Intn(3) - 1
	}
	o, _ := object.Branch(x)
	return o.Bytes
}
