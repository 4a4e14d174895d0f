package remote

import (
	"tussock/api"
	"tussock/wire"
)

const sumSize = 4 // bytes of a frame's sum

// textOf is a right frame's bytes.
func textOf(f api.Frame) string {
	l, _ := lookOf(f.Kind)
	b := append([]byte{l.mark}, wire.PutInt(nil, f.Number)...)
	b = append(b, wire.PutInt(nil, int64(len(f.Objs)))...)
	for _, o := range f.Objs {
		b = append(b, wire.PutText(nil, o)...)
	}
	b = append(b, wire.PutInt(nil, int64(len(f.Ids)))...)
	for _, id := range f.Ids {
		b = append(b, id...)
	}
	return string(append(b, sumOf(b)...))
}

// sumOf is the sum's bytes, the lowest first.
func sumOf(b []byte) []byte {
	sum := wire.Crc(b)
	var out []byte
	for range sumSize {
		out = append(out, byte(sum))
		sum >>= 8
	}
	return out
}

// frameOf is what stands in a text, if it has its sum and nothing else stands there. Whether that is a right frame is not asked.
func frameOf(s string) (api.Frame, bool) {
	at := len(s) - sumSize
	if at < 1 || string(sumOf([]byte(s[:at]))) != s[at:] {
		return api.Frame{}, false
	}
	r := &reading{bytes: []byte(s[1:at])}
	f := api.Frame{Kind: kindOf(s[0]), Number: r.takeNumber()}
	f.Objs = r.takeList(r.takeObj)
	f.Ids = r.takeList(r.takeId)
	return f, r.wasAll()
}

// reading goes through bytes. It does not stop at a fault but goes to the end, where nothing more is found, so that who reads need ask but once, at last.
type reading struct {
	bytes []byte
	at    int
	fault bool
}

// wasAll tells whether all was read, without a fault.
func (r *reading) wasAll() bool { return !r.fault && r.at == len(r.bytes) }

// goTo goes to the place behind what was asked for, if that was there.
func (r *reading) goTo(next int, ok bool) {
	if !ok {
		r.fault, next = true, len(r.bytes)
	}
	r.at = next
}

func (r *reading) takeNumber() int64 {
	n, next, ok := wire.TakeInt(r.bytes, r.at)
	r.goTo(next, ok)
	return n
}

func (r *reading) takeObj() string {
	s, next, ok := wire.TakeText(r.bytes, r.at, api.MaxObject)
	r.goTo(next, ok)
	return s
}

func (r *reading) takeId() string {
	from, to := r.at, r.at+api.IdSize
	if to > len(r.bytes) {
		r.goTo(0, false)
		return ""
	}
	r.goTo(to, true)
	return string(r.bytes[from:to])
}

// takeList takes how many there are, and each. Of more than a frame can have none is taken.
func (r *reading) takeList(take func() string) []string {
	n := r.takeNumber()
	if n < 0 || n > mostEach {
		r.goTo(0, false)
		return nil
	}
	var list []string
	for range n {
		list = append(list, take())
	}
	return list
}
