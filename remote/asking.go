package remote

import (
	"slices"

	"tussock/api"
	"tussock/hash"
	"tussock/net"
)

// end is one's end of a net. Frames that go out there are numbered.
type end struct {
	line *net.Net
	last int64
}

// send sends a frame, and answers its number and the frames that come back; bytes that are no frame's are left out.
func (n *end) send(f api.Frame) (int64, []api.Frame) {
	n.last++
	f.Number = n.last
	var back []api.Frame
	for _, s := range n.line.Ask(textOf(f)) {
		if came, e := Decode(s); e == api.OK {
			back = append(back, came)
		}
	}
	return f.Number, back
}

// wanted is what one Fetch is about.
type wanted struct {
	matter
	came    map[string]api.Object
	numbers map[int64]struct{} // of the frames that were sent for it: others may speak of what was there, or not, at another time
}

func newWanted(ids ...string) *wanted {
	return &wanted{matter: newMatter(ids), came: map[string]api.Object{}, numbers: map[int64]struct{}{}}
}

// hear reads what came back when a frame of this number was sent for some that are due. That one is not there counts only when all was read, as its object may come behind.
func (w *wanted) hear(number int64, due []string, back []api.Frame) api.Errno {
	w.numbers[number] = struct{}{}
	var missing []string
	for _, f := range back {
		if f.Kind != api.WHave {
			continue
		}
		w.take(f.Objs)
		if _, own := w.numbers[f.Number]; own {
			missing = append(missing, f.Ids...)
		}
	}
	for _, id := range missing {
		if w.isDue(id) && slices.Contains(due, id) {
			return api.ErrRemoteNone
		}
	}
	return api.OK
}

// take takes those objects that are due, of whichever piece; by their bytes, as nobody's word is taken for what they are.
func (w *wanted) take(objs []string) {
	for _, bytes := range objs {
		id := hash.Sum(bytes)
		if w.isDue(id) {
			w.came[id] = api.Object{Id: id, Bytes: bytes}
			w.done(id)
		}
	}
}

// objects are those that came, in the order of the ids.
func (w *wanted) objects() []api.Object {
	var out []api.Object
	for _, id := range w.ids {
		out = append(out, w.came[id])
	}
	return out
}

// brought is what one Push is about.
type brought struct {
	matter
	objs map[string]api.Object
}

func newBrought(objs ...api.Object) *brought {
	b := &brought{objs: map[string]api.Object{}}
	var ids []string
	for _, o := range objs {
		b.objs[o.Id] = o
		ids = append(ids, o.Id)
	}
	b.matter = newMatter(ids)
	return b
}

func (b *brought) bytesOf(ids []string) []string {
	var out []string
	for _, id := range ids {
		out = append(out, b.objs[id].Bytes)
	}
	return out
}

// hear reads what came back: what is said to be kept is due no more.
func (b *brought) hear(back []api.Frame) {
	for _, f := range back {
		if f.Kind != api.WAck {
			continue
		}
		for _, id := range f.Ids {
			b.done(id)
		}
	}
}
