package object

import "tussock/api"

// Refs are the ids that an object names.
func Refs(b string) ([]string, api.Errno) {
	ids, e := names(b)
	if e != api.OK {
		return nil, e
	}
	return eachOnce(ids), api.OK
}

// names are the ids that stand in an object, as often as they do.
func names(b string) ([]string, api.Errno) {
	switch b[:min(len(b), 1)] {
	case chunkMark:
		_, e := TakeChunk(b)
		return nil, e
	case fanMark:
		f, e := TakeFan(b)
		return idsOf(f.Kids, func(p api.Part) (string, bool) { return p.Id, true }), e
	case leafMark:
		pairs, e := TakeLeaf(b)
		return idsOf(pairs, entryId), e
	case branchMark:
		x, e := TakeBranch(b)
		return idsOf(x.Kids, func(l api.Link) (string, bool) { return l.Id, true }), e
	case commitMark:
		c, e := TakeCommit(b)
		return append([]string{c.Tree}, c.Parents...), e
	}
	return nil, api.ErrObjectByte
}

// entryId is the id of the entry that a pair is, if it is one.
func entryId(p api.Pair) (string, bool) {
	x, e := TakeEntry(p.Key, p.Val)
	return x.Id, e == api.OK
}

// idsOf are the ids of those that have one.
func idsOf[T any](list []T, id func(T) (string, bool)) []string {
	var ids []string
	for _, x := range list {
		if s, ok := id(x); ok {
			ids = append(ids, s)
		}
	}
	return ids
}
