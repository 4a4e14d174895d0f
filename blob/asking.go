package blob

import (
	"tussock/api"
	"tussock/object"
)

const (
	chunkLevel = 0  // parts of it are chunks, parts of those above are fans
	anyLevel   = -1 // of a root nobody knows what it is till it is asked for
)

// node is what a part stands for: a chunk's data, or a fan. What it has not is empty, so that a chunk is of chunkLevel.
type node struct {
	api.Fan
	data string
}

func (n node) size() int64 { return int64(len(n.data)) + sizeOf(n.Kids) }

func takeNode(b string) (node, bool) {
	if data, e := object.TakeChunk(b); e == api.OK {
		return node{data: data}, true
	}
	f, e := object.TakeFan(b)
	return node{Fan: f}, e == api.OK
}

// asking asks a get for what parts stand for.
type asking struct{ get api.Get }

// ask is what a part stands for: it must be of the level, and have as many bytes as the part says.
func (a asking) ask(p api.Part, level int) (node, api.Errno) {
	b, e := a.get(p.Id)
	if e != api.OK {
		return node{}, e
	}
	n, ok := takeNode(b)
	if !ok || n.size() != p.Size || level != anyLevel && level != n.Level {
		return node{}, api.ErrBlobCorrupt
	}
	return n, api.OK
}
