package store

import (
	"bytes"

	"tussock/api"
	"tussock/wire"
)

// How a file lies: a head (mark, the file's number, how many bytes its rows have, the sum of these), a row for each object (its id, how many bytes it has), by rising ids, the rows' sum, then the objects' bytes, in the rows' order. The head has one size, and a sum of its own: so it is sure where the rows' sum stands ahead of its being asked. The objects' bytes have none, since their ids are sums.
const (
	baseMark = "\xF5all" // what files of lesser numbers have does not count any more
	moreMark = "\xF5add" // it has more objects, beside those of the file of the number ahead of its own
	wordSize = 4
	headSize = len(baseMark) + 3*wordSize
)

type head struct {
	base   bool
	number int
	size   int // bytes of all rows
}

// row is one object.
type row struct {
	id   string
	size int
}

// front is what stands in a file ahead of the objects' bytes.
type front struct {
	head
	rows []row
}

// newFront is that of a file with these objects, which stand by rising ids.
func newFront(base bool, number int, objs []api.Object) front {
	f := front{head: head{base: base, number: number}}
	for _, o := range objs {
		r := row{o.Id, len(o.Bytes)}
		f.rows = append(f.rows, r)
		f.size += len(putRow(nil, r))
	}
	return f
}

// end is where the first object's bytes begin, length how many bytes the file has.
func (f front) end() int { return headSize + f.size + wordSize }

func (f front) length() int {
	n := f.end()
	for _, r := range f.rows {
		n += r.size
	}
	return n
}

// file makes the whole file's bytes.
func (f front) file(objs []api.Object) []byte {
	b := make([]byte, 0, f.length())
	b = append(b, f.head.put()...)
	for _, r := range f.rows {
		b = putRow(b, r)
	}
	b = append(b, sum(b[headSize:])...)
	for _, o := range objs {
		b = append(b, o.Bytes...)
	}
	return b
}

func (h head) put() []byte {
	mark := moreMark
	if h.base {
		mark = baseMark
	}
	b := putWord(putWord([]byte(mark), uint32(h.number)), uint32(h.size))
	return append(b, sum(b)...)
}

// takeHead reads the head of the file of a number. It is one, if it has the bytes that would be put for what it says.
func takeHead(b []byte, number int) (head, bool) {
	size := takeWord(b[headSize-2*wordSize:])
	h := head{base: bytes.HasPrefix(b, []byte(baseMark)), number: number, size: int(size)}
	return h, bytes.Equal(h.put(), b)
}

func putRow(b []byte, r row) []byte {
	return append(append(b, r.id...), wire.PutInt(nil, int64(r.size))...) // not behind b itself, which would be copied each time
}

// takeRows reads all rows, their sum behind them.
func takeRows(b []byte) ([]row, bool) {
	b, last := b[:len(b)-wordSize], b[len(b)-wordSize:]
	if !bytes.Equal(sum(b), last) {
		return nil, false
	}
	var rows []row
	for len(b) > 0 {
		size, next, ok := wire.TakeInt(b, api.IdSize)
		if !ok || size < 0 || size > api.MaxObject {
			return nil, false
		}
		r := row{string(b[:api.IdSize]), int(size)}
		if len(rows) > 0 && r.id <= rows[len(rows)-1].id {
			return nil, false
		}
		rows = append(rows, r)
		b = b[next:]
	}
	return rows, true
}

func sum(b []byte) []byte { return putWord(nil, wire.Crc(b)) }

func putWord(b []byte, n uint32) []byte {
	return append(b, byte(n>>24), byte(n>>16), byte(n>>8), byte(n))
}

func takeWord(b []byte) uint32 {
	return uint32(b[0])<<24 | uint32(b[1])<<16 | uint32(b[2])<<8 | uint32(b[3])
}
