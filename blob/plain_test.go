package blob_test

import (
	"encoding/binary"

	"tussock/api"
	"tussock/gear"
)

// The model follows the chapter's words, and writes and reads objects' bytes by other means than the program.

func plainChunk(data string) string { return "C" + data }

func plainFan(f api.Fan) string {
	b := binary.AppendVarint([]byte("F"), int64(f.Level))
	b = binary.AppendVarint(b, int64(len(f.Kids)))
	for _, k := range f.Kids {
		b = binary.AppendVarint(append(b, k.Id...), k.Size)
	}
	return string(b)
}

// plainBuild is a file's root and objects.
func plainBuild(data string) (api.Part, []api.Object) {
	var objs []api.Object
	told := map[string]bool{}
	lay := func(b string, size int64) api.Part {
		p := api.Part{Id: sumOf(b), Size: size}
		if !told[p.Id] {
			told[p.Id] = true
			objs = append(objs, api.Object{Id: p.Id, Bytes: b})
		}
		return p
	}
	var parts []api.Part
	from := 0
	for _, end := range gear.Cuts(data) {
		parts = append(parts, lay(plainChunk(data[from:end]), int64(end-from)))
		from = end
	}
	if data == "" {
		parts = append(parts, lay(plainChunk(""), 0))
	}
	for level := 1; len(parts) > 1; level++ {
		var above []api.Part
		for _, g := range plainGroups(parts) {
			size := int64(0)
			for _, k := range g {
				size += k.Size
			}
			above = append(above, lay(plainFan(api.Fan{Level: level, Kids: g}), size))
		}
		parts = above
	}
	return parts[0], objs
}

// plainGroups puts part by part into the last group, and begins another one where that has ended.
func plainGroups(parts []api.Part) [][]api.Part {
	var groups [][]api.Part
	ended := true
	for _, p := range parts {
		if ended {
			groups = append(groups, nil)
		}
		last := len(groups) - 1
		groups[last] = append(groups[last], p)
		ended = len(groups[last]) == 32 || len(groups[last]) >= 2 && isLoud(p.Id)
	}
	return groups
}

// isLoud tells whether an id's last byte is a multiple of 8.
func isLoud(id string) bool { return id[31]&7 == 0 }

// takePlainFan reads a fan from its bytes: it is right if it is written just so.
func takePlainFan(b string) (api.Fan, bool) {
	var f api.Fan
	if b == "" || b[0] != 'F' {
		return f, false
	}
	rest := []byte(b[1:])
	number := func() int64 {
		n, used := binary.Varint(rest)
		rest = rest[max(used, 0):]
		return n
	}
	f.Level = int(number())
	many, sum := number(), int64(0)
	for range min(max(many, 0), 33) {
		cut := min(32, len(rest))
		k := api.Part{Id: string(rest[:cut])}
		rest = rest[cut:]
		k.Size = number()
		f.Kids = append(f.Kids, k)
		if len(k.Id) != 32 || k.Size < 1 || k.Size > 262144 {
			return f, false
		}
		sum += k.Size
	}
	right := f.Level >= 1 && f.Level <= 20 && len(f.Kids) >= 1 && len(f.Kids) <= 32 && sum <= 262144
	return f, right && plainFan(f) == b
}

// told is what the model says of a call: bytes or parts, or an error; which ids are asked.
type told struct {
	data  string
	parts []api.Part
	e     api.Errno
	asked []string
}

// plain goes through a file. If it lists, it asks for no chunk but a root.
type plain struct {
	told
	s        *shelf
	from, to int64
	lists    bool
	bytes    []byte
}

// goTo goes to a part that stands at a place; must is the level that it must be of (0: a chunk), or -1 if it may be of any.
func (g *plain) goTo(p api.Part, at int64, must int) {
	some := false // is one of its bytes among those that are gone to?
	for i := at; i < at+p.Size && !some; i++ {
		some = i >= g.from && i < g.to
	}
	if g.e != api.OK || !some {
		return
	}
	if g.lists && must == 0 {
		g.parts = append(g.parts, p)
		return
	}
	g.asked = append(g.asked, p.Id)
	b, e := g.s.look(p.Id)
	if e != api.OK {
		g.e = e
		return
	}
	g.goInto(p, at, must, b)
}

func (g *plain) goInto(p api.Part, at int64, must int, b string) {
	if b != "" && b[0] == 'C' && len(b) <= 1025 && int64(len(b)-1) == p.Size && must <= 0 {
		for i, c := range []byte(b[1:]) {
			if place := at + int64(i); place >= g.from && place < g.to {
				g.bytes = append(g.bytes, c)
			}
		}
		g.parts = append(g.parts, p)
		return
	}
	f, ok := takePlainFan(b)
	sum := int64(0)
	for _, k := range f.Kids {
		sum += k.Size
	}
	if !ok || sum != p.Size || must >= 0 && must != f.Level {
		g.e = api.ErrBlobCorrupt
		return
	}
	for _, k := range f.Kids {
		g.goTo(k, at, f.Level-1)
		at += k.Size
	}
}

// answer leaves out what does not stand beside an error, and what was not asked of it.
func (g *plain) answer() told {
	out := told{e: g.e, asked: g.asked}
	switch {
	case g.e != api.OK:
	case g.lists:
		out.parts = g.parts
	default:
		out.data = string(g.bytes)
	}
	return out
}

func plainIsRight(p api.Part) bool { return len(p.Id) == 32 && p.Size >= 0 && p.Size <= 262144 }

func plainRead(s *shelf, root api.Part, from, n int64) told {
	if from < 0 || n < 0 || !plainIsRight(root) {
		return told{e: api.ErrArg}
	}
	g := plain{s: s, from: from, to: root.Size}
	if n < root.Size && from < root.Size && from+n < root.Size {
		g.to = from + n
	}
	g.goTo(root, 0, -1)
	return g.answer()
}

func plainSplice(s *shelf, root api.Part, from, n int64, data string) told {
	if from < 0 || n < 0 || !plainIsRight(root) || from > root.Size {
		return told{e: api.ErrArg}
	}
	out := plainRead(s, root, 0, root.Size)
	if out.e != api.OK {
		return out
	}
	var file []byte
	for i, c := range []byte(out.data) {
		if int64(i) < from {
			file = append(file, c)
		}
	}
	file = append(file, data...)
	for i, c := range []byte(out.data) {
		if int64(i) >= from && int64(i)-from >= n {
			file = append(file, c)
		}
	}
	if len(file) > 262144 {
		return told{e: api.ErrBlobLong, asked: out.asked}
	}
	out.data = string(file)
	return out
}

func plainChunks(s *shelf, root api.Part) told {
	if !plainIsRight(root) {
		return told{e: api.ErrArg}
	}
	g := plain{s: s, to: root.Size, lists: true}
	g.goTo(root, 0, -1)
	return g.answer()
}
