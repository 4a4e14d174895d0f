package blob

import (
	"tussock/api"
	"tussock/gear"
	"tussock/object"
)

// A group of two or more parts ends behind one of whose id the last byte is a multiple of this: ids say it, not places, so that a change moves the groups near it alone.
const groupEnd = 8

// building makes a file's objects, each id once.
type building struct {
	objects []api.Object
	laid    map[string]struct{}
}

// layFile lays all objects of a file: its root.
func (b *building) layFile(data string) api.Part {
	b.laid = map[string]struct{}{}
	parts := b.layChunks(data)
	for level := 1; len(parts) > 1; level++ {
		parts = b.layFans(level, parts)
	}
	return parts[0]
}

// layChunks lays the parts of level 0. A file without bytes has one, too.
func (b *building) layChunks(data string) []api.Part {
	ends := gear.Cuts(data)
	if len(ends) == 0 {
		ends = []int{0}
	}
	var parts []api.Part
	from := 0
	for _, end := range ends {
		o, _ := object.Chunk(data[from:end]) // gear cuts none that is too long
		parts = append(parts, b.lay(o, int64(end-from)))
		from = end
	}
	return parts
}

// layFans lays the parts of a level over those of the one below.
func (b *building) layFans(level int, below []api.Part) []api.Part {
	var parts []api.Part
	for len(below) > 0 {
		n := groupSize(below)
		fan := api.Fan{Level: level, Kids: below[:n]}
		o, _ := object.Fan(fan) // of at most 4096 chunks there are not too many levels, as each group but the last one has two parts or more
		parts = append(parts, b.lay(o, sizeOf(fan.Kids)))
		below = below[n:]
	}
	return parts
}

// lay lays an object, if it was not laid yet: the part for which it stands.
func (b *building) lay(o api.Object, size int64) api.Part {
	if _, ok := b.laid[o.Id]; !ok {
		b.laid[o.Id] = struct{}{}
		b.objects = append(b.objects, o)
	}
	return api.Part{Id: o.Id, Size: size}
}

// groupSize is how many of the parts make the first group.
func groupSize(parts []api.Part) int {
	most := min(len(parts), api.MaxFan)
	for n := 2; n < most; n++ {
		if id := parts[n-1].Id; id[len(id)-1]%groupEnd == 0 {
			return n
		}
	}
	return most
}

func sizeOf(parts []api.Part) int64 {
	var size int64
	for _, p := range parts {
		size += p.Size
	}
	return size
}
