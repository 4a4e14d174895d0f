package object

import (
	"strings"

	"tussock/api"
	"tussock/hash"
	"tussock/wire"
)

// written is what stands in an object, or in an entry's value.
type written struct{ bytes []byte }

// write begins with some texts' own bytes.
func write(texts ...string) *written {
	w := &written{}
	for _, s := range texts {
		w.layBare(s)
	}
	return w
}

// layBare lays a text's own bytes: of ids everybody knows how many there are.
func (w *written) layBare(s string) { w.bytes = append(w.bytes, s...) }

func (w *written) layNumber(n int64) { w.bytes = append(w.bytes, wire.PutInt(nil, n)...) }

func (w *written) layText(s string) { w.bytes = append(w.bytes, wire.PutText(nil, s)...) }

func (w *written) layPart(p api.Part) {
	w.layBare(p.Id)
	w.layNumber(p.Size)
}

func (w *written) layPair(p api.Pair) {
	w.layText(p.Key)
	w.layText(p.Val)
}

func (w *written) layLink(l api.Link) {
	w.layText(l.Last)
	w.layBare(l.Id)
	w.layNumber(l.Many)
}

// size is how many bytes there are, text all of them, piece those from a place on up to another one.
func (w *written) size() int { return len(w.bytes) }

func (w *written) text() string { return w.piece(0, w.size()) }

func (w *written) piece(from, to int) string { return string(w.bytes[from:to]) }

func (w *written) object() api.Object {
	b := w.text()
	return api.Object{Id: hash.Sum(b), Bytes: b}
}

// layList lays how many there are, and each.
func layList[T any](w *written, list []T, lay func(T)) {
	w.layNumber(int64(len(list)))
	for _, x := range list {
		lay(x)
	}
}

// reading goes through what is written. It does not stop at a fault but goes to the end, where nothing more is found, so that who reads need ask but once, at last.
type reading struct {
	written
	at    int
	fault bool
}

// read begins behind a mark, which must be there.
func read(b, mark string) *reading {
	rest, ok := strings.CutPrefix(b, mark)
	if !ok {
		return &reading{fault: true}
	}
	return &reading{written: written{bytes: []byte(rest)}}
}

// wasAll tells whether all was read, without a fault.
func (r *reading) wasAll() bool { return !r.fault && r.at == r.size() }

// goTo goes to the place behind what was asked for, if that was there.
func (r *reading) goTo(next int, ok bool) {
	if !ok {
		r.fault, next = true, r.size()
	}
	r.at = next
}

func (r *reading) takeId() string {
	from, to := r.at, r.at+api.IdSize
	ok := to <= r.size()
	r.goTo(to, ok)
	if !ok {
		return ""
	}
	return r.piece(from, to)
}

func (r *reading) takeNumber() int64 {
	n, next, ok := wire.TakeInt(r.bytes, r.at)
	r.goTo(next, ok)
	return n
}

// takeSmall takes a number from 0 to most: an int has room for it anywhere, and a list of so many ends soon.
func (r *reading) takeSmall(most int) int {
	n := r.takeNumber()
	if n < 0 || n > int64(most) {
		r.goTo(0, false)
		return 0
	}
	return int(n)
}

func (r *reading) takeText() string {
	s, next, ok := wire.TakeText(r.bytes, r.at, r.size())
	r.goTo(next, ok)
	return s
}

func (r *reading) takePart() api.Part {
	id := r.takeId()
	return api.Part{Id: id, Size: r.takeNumber()}
}

func (r *reading) takePair() api.Pair {
	key := r.takeText()
	return api.Pair{Key: key, Val: r.takeText()}
}

func (r *reading) takeLink() api.Link {
	last := r.takeText()
	id := r.takeId()
	return api.Link{Last: last, Id: id, Many: r.takeNumber()}
}

// takeList takes how many there are, and each.
func takeList[T any](r *reading, most int, take func() T) []T {
	var list []T
	for range r.takeSmall(most) {
		list = append(list, take())
	}
	return list
}
