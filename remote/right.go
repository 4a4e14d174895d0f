package remote

import (
	"slices"

	"tussock/api"
	"tussock/hash"
)

const (
	mostEach   = 64      // objects, or ids, of one frame
	mostNumber = 1 << 62 // of a frame
	mostLast   = 1 << 61 // where a client begins: as many numbers again are left to it
)

// span is how many there may be.
type span struct{ least, most int }

func (s span) holds(n int) bool { return s.least <= n && n <= s.most }

// look is what frames of a kind look like.
type look struct {
	kind      int
	mark      byte // their first byte
	objs, ids span
}

var looks = [4]look{
	{api.WWant, 'W', span{0, 0}, span{1, mostEach}},
	{api.WHave, 'H', span{0, mostEach}, span{0, mostEach}},
	{api.WPush, 'P', span{1, mostEach}, span{0, 0}},
	{api.WAck, 'A', span{0, 0}, span{0, mostEach}},
}

// lookOf is what frames of a kind look like, if there are such.
func lookOf(kind int) (look, bool) {
	for _, l := range looks {
		if l.kind == kind {
			return l, true
		}
	}
	return look{}, false
}

// kindOf is the kind of frames that begin with a byte, or none that there is.
func kindOf(mark byte) int {
	for _, l := range looks {
		if l.mark == mark {
			return l.kind
		}
	}
	return 0
}

func frameIsRight(f api.Frame) bool {
	l, ok := lookOf(f.Kind)
	return ok && f.Number >= 1 && f.Number <= mostNumber &&
		l.objs.holds(len(f.Objs)) && l.ids.holds(len(f.Ids)) &&
		!slices.ContainsFunc(f.Objs, isTooLong) && idsAreRight(f.Ids)
}

func isTooLong(bytes string) bool { return len(bytes) > api.MaxObject }

func idsAreRight(ids []string) bool {
	for _, id := range ids {
		if len(id) != api.IdSize {
			return false
		}
	}
	return true
}

func objectIsRight(o api.Object) bool { return !isTooLong(o.Bytes) && o.Id == hash.Sum(o.Bytes) }

func objectsAreRight(objs []api.Object) bool {
	for _, o := range objs {
		if !objectIsRight(o) {
			return false
		}
	}
	return true
}
