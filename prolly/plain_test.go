package prolly_test

import (
	"encoding/binary"
	"slices"
	"strings"

	"tussock/api"
)

// The model follows the chapter's words, and writes and reads objects' bytes by other means than the program.

func plainText(b []byte, s string) []byte {
	return append(binary.AppendVarint(b, int64(len(s))), s...)
}

func plainLeaf(pairs []api.Pair) string {
	b := binary.AppendVarint([]byte("L"), int64(len(pairs)))
	for _, p := range pairs {
		b = plainText(plainText(b, p.Key), p.Val)
	}
	return string(b)
}

func plainBranch(x api.Branch) string {
	b := binary.AppendVarint([]byte("B"), int64(x.Level))
	b = binary.AppendVarint(b, int64(len(x.Kids)))
	for _, k := range x.Kids {
		b = append(plainText(b, k.Last), k.Id...)
		b = binary.AppendVarint(b, k.Many)
	}
	return string(b)
}

// isLoud tells whether a key ends a node of a level.
func isLoud(key string, level int) bool { return sumOf(key)[31-level]&15 == 0 }

// plainBuild is a map's root and objects.
func plainBuild(pairs []api.Pair) (string, []api.Object) {
	s := shelfOf()
	var objs []api.Object
	told := map[string]bool{}
	lay := func(l api.Link) api.Link {
		if !told[l.Id] {
			told[l.Id] = true
			objs = append(objs, api.Object{Id: l.Id, Bytes: s.has[l.Id]})
		}
		return l
	}
	var nodes []api.Link
	for _, g := range plainGroups(pairs, func(p api.Pair, n int) bool { return isLoud(p.Key, 0) }) {
		nodes = append(nodes, lay(s.layLeaf(g...)))
	}
	if len(pairs) == 0 {
		nodes = append(nodes, lay(s.layLeaf()))
	}
	for level := 1; len(nodes) > 1; level++ {
		var above []api.Link
		for _, g := range plainGroups(nodes, func(l api.Link, n int) bool { return n >= 2 && isLoud(l.Last, level) }) {
			above = append(above, lay(s.layBranch(level, g...)))
		}
		nodes = above
	}
	return nodes[0].Id, objs
}

// plainGroups puts one by one into the last group, and begins another one where that has ended.
func plainGroups[T any](list []T, ends func(x T, n int) bool) [][]T {
	var groups [][]T
	ended := true
	for _, x := range list {
		if ended {
			groups = append(groups, nil)
		}
		last := len(groups) - 1
		groups[last] = append(groups[last], x)
		ended = len(groups[last]) == 64 || ends(x, len(groups[last]))
	}
	return groups
}

// plainNode is a leaf (of Level 0), or a branch.
type plainNode struct {
	api.Branch
	pairs []api.Pair
	last  string
	many  int64
}

// plainReader reads numbers and texts; what is not there is read as nothing, as nothing counts that is not written just so.
type plainReader struct{ rest []byte }

func (r *plainReader) number() int64 {
	n, used := binary.Varint(r.rest)
	r.rest = r.rest[max(used, 0):]
	return n
}

func (r *plainReader) bytes(n int64) string {
	n = min(max(n, 0), int64(len(r.rest)))
	s := string(r.rest[:n])
	r.rest = r.rest[n:]
	return s
}

func (r *plainReader) text() string { return r.bytes(r.number()) }

// takePlainNode reads a node from its bytes.
func takePlainNode(b string) (plainNode, bool) {
	if n, ok := takePlainLeaf(b); ok {
		return n, true
	}
	return takePlainBranch(b)
}

func takePlainLeaf(b string) (plainNode, bool) {
	var n plainNode
	if b == "" || b[0] != 'L' {
		return n, false
	}
	r := plainReader{[]byte(b[1:])}
	right := true
	for range min(r.number(), 65) {
		p := api.Pair{Key: r.text(), Val: r.text()}
		right = right && p.Key > n.last && len(p.Key) <= 64 && len(p.Val) <= 128
		n.pairs = append(n.pairs, p)
		n.last, n.many = p.Key, n.many+1
	}
	return n, right && n.many <= 64 && plainLeaf(n.pairs) == b
}

func takePlainBranch(b string) (plainNode, bool) {
	var n plainNode
	if b == "" || b[0] != 'B' {
		return n, false
	}
	r := plainReader{[]byte(b[1:])}
	n.Level = int(r.number())
	right := n.Level >= 1 && n.Level <= 20
	for range min(r.number(), 65) {
		l := api.Link{Last: r.text(), Id: r.bytes(32), Many: r.number()}
		right = right && l.Last > n.last && len(l.Last) <= 64 && len(l.Id) == 32 && l.Many >= 1 && l.Many <= 4096
		n.Kids = append(n.Kids, l)
		n.last, n.many = l.Last, n.many+min(l.Many, 4097)
	}
	return n, right && n.many <= 4096 && len(n.Kids) >= 1 && len(n.Kids) <= 64 && plainBranch(n.Branch) == b
}

// plainGoTo is the node of an id; of a kid level is the one that it must be of, and link what it must be like.
func plainGoTo(s *shelf, id string, link *api.Link, level int) (plainNode, api.Errno) {
	b, e := s.look(id)
	if e != api.OK {
		return plainNode{}, e
	}
	n, ok := takePlainNode(b)
	if !ok || link != nil && (n.Level != level || n.last != link.Last || n.many != link.Many) {
		return plainNode{}, api.ErrProllyCorrupt
	}
	return n, api.OK
}

// found is what the model says of Find.
type found struct {
	val   string
	ok    bool
	e     api.Errno
	asked []string
}

func plainFind(s *shelf, root, key string) found {
	if key == "" || len(key) > 64 {
		return found{e: api.ErrArg}
	}
	out := found{asked: []string{root}}
	n, e := plainGoTo(s, root, nil, 0)
	for e == api.OK && len(n.Kids) > 0 {
		i := slices.IndexFunc(n.Kids, func(l api.Link) bool { return strings.Compare(l.Last, key) >= 0 })
		if i < 0 {
			return out
		}
		kid := n.Kids[i]
		out.asked = append(out.asked, kid.Id)
		n, e = plainGoTo(s, kid.Id, &kid, n.Level-1)
	}
	out.e = e
	if i := slices.IndexFunc(n.pairs, func(p api.Pair) bool { return p.Key == key }); e == api.OK && i >= 0 {
		out.val, out.ok = n.pairs[i].Val, true
	}
	return out
}

// plainWalk notes all that happens while pairs are gone through, to the end or to the first error.
type plainWalk struct {
	s      *shelf
	lo, hi string
	steps  []step
	told   []string
	ended  bool
}

func plainSteps(s *shelf, root, lo, hi string) []step {
	w := plainWalk{s: s, lo: lo, hi: hi}
	w.goTo(root, nil, 0)
	return w.steps
}

func (w *plainWalk) fail(e api.Errno) {
	w.steps = append(w.steps, step{e: e})
	w.ended = true
}

func (w *plainWalk) goTo(id string, link *api.Link, level int) {
	if w.ended {
		return
	}
	w.steps = append(w.steps, step{asked: id})
	n, e := plainGoTo(w.s, id, link, level)
	if e != api.OK {
		w.fail(e)
		return
	}
	for _, p := range n.pairs {
		w.tell(p)
	}
	for i, kid := range n.Kids {
		behind := slices.ContainsFunc(n.Kids[:i], func(l api.Link) bool { return w.hi != "" && l.Last >= w.hi })
		if kid.Last >= w.lo && !behind {
			w.goTo(kid.Id, &kid, n.Level-1)
		}
	}
}

func (w *plainWalk) tell(p api.Pair) {
	if w.ended || p.Key < w.lo || w.hi != "" && p.Key >= w.hi {
		return
	}
	if len(w.told) > 0 && p.Key <= w.told[len(w.told)-1] {
		w.fail(api.ErrProllyCorrupt)
		return
	}
	w.told = append(w.told, p.Key)
	w.steps = append(w.steps, step{Pair: p})
}

// toldBy are the pairs that steps tell, or their error alone.
func toldBy(steps []step) ([]api.Pair, api.Errno) {
	var pairs []api.Pair
	for _, x := range steps {
		if x.e != api.OK {
			return nil, x.e
		}
		if x.Key != "" {
			pairs = append(pairs, x.Pair)
		}
	}
	return pairs, api.OK
}

func askedBy(steps []step) []string {
	var ids []string
	for _, x := range steps {
		if x.Key == "" && x.e == api.OK {
			ids = append(ids, x.asked)
		}
	}
	return ids
}

// upTo are the steps till something was told so many times.
func upTo(steps []step, times int) []step {
	for i, x := range steps {
		if x.Key != "" || x.e != api.OK {
			times--
		}
		if times == 0 {
			return steps[:i+1]
		}
	}
	return steps
}

func plainMany(s *shelf, root string) (int64, api.Errno) {
	n, e := plainGoTo(s, root, nil, 0)
	return n.many, e
}

// plainEdit is the pairs behind all puts, the ids that are asked, or the error.
func plainEdit(s *shelf, root string, puts []api.Put) ([]api.Pair, []string, api.Errno) {
	for _, p := range puts {
		if p.Key == "" || len(p.Key) > 64 || len(p.Val) > 128 || p.Gone && p.Val != "" {
			return nil, nil, api.ErrProllyForm
		}
	}
	steps := plainSteps(s, root, "", "")
	pairs, e := toldBy(steps)
	for _, p := range puts {
		at, there := slices.BinarySearchFunc(pairs, p.Key, func(x api.Pair, key string) int { return strings.Compare(x.Key, key) })
		if there {
			pairs = slices.Delete(pairs, at, at+1)
		}
		if !p.Gone {
			pairs = slices.Insert(pairs, at, api.Pair{Key: p.Key, Val: p.Val})
		}
	}
	if e == api.OK && len(pairs) > 4096 {
		e = api.ErrProllyMany
	}
	if e != api.OK {
		return nil, askedBy(steps), e
	}
	return pairs, askedBy(steps), api.OK
}
