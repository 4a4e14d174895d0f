package wal

import (
	"bytes"

	"tussock/wire"
)

// A right group.
const (
	mostRecords = 8192
	mostBytes   = 1 << 21
)

// How a group lies in the file: a head (mark, how many bytes the records have there, the sum of both), the records as texts, their sum. The head has a sum of its own: were its number turned unseen, a whole group would look like a torn one.
const (
	mark     = "\xF5wal" // no text begins so
	wordSize = 4
	headSize = len(mark) + 2*wordSize
	mostBody = mostBytes + 4*mostRecords // the length of a record takes at most four bytes
)

// isRight tells whether records make a group that may be laid.
func isRight(records []string) bool {
	if len(records) > mostRecords {
		return false
	}
	n := 0
	for _, r := range records {
		n += len(r)
	}
	return n <= mostBytes
}

// putGroup makes a group's bytes.
func putGroup(records []string) []byte {
	var body []byte
	for _, r := range records {
		body = append(body, wire.PutText(nil, r)...) // not behind body itself, which would be copied each time
	}
	return append(append(putHead(len(body)), body...), putSum(body)...)
}

func putHead(size int) []byte {
	b := putWord([]byte(mark), uint32(size))
	return append(b, putSum(b)...)
}

func putSum(b []byte) []byte {
	return putWord(nil, wire.Crc(b))
}

func putWord(b []byte, n uint32) []byte {
	return append(b, byte(n>>24), byte(n>>16), byte(n>>8), byte(n))
}

func takeWord(b []byte) uint32 {
	return uint32(b[0])<<24 | uint32(b[1])<<16 | uint32(b[2])<<8 | uint32(b[3])
}

// takeGroups reads all groups, and tells how many bytes they have. False: no log laid that. Behind a crash the last group may be torn, and is none then; the first one can't be, since it is laid anew.
func takeGroups(b []byte) ([][]string, int, bool) {
	var groups [][]string
	at := 0
	for at < len(b) {
		records, n, ok := takeGroup(b[at:])
		if !ok || n == 0 && at == 0 {
			return nil, 0, false
		}
		if n == 0 {
			break
		}
		groups = append(groups, records)
		at += n
	}
	return groups, at, true
}

// takeGroup reads the group at the beginning of b, and tells how many bytes it has: 0, if it is torn. False: it is none, and none's beginning.
func takeGroup(b []byte) ([]string, int, bool) {
	size, ok := takeHead(b)
	if !ok || len(b) < headSize {
		return nil, 0, ok
	}
	body, rest := cut(b[headSize:], size)
	records, ok := takeRecords(body, size)
	if !ok || !isRight(records) {
		return nil, 0, false
	}
	if len(body) < size {
		return nil, 0, true
	}
	sum, _ := cut(rest, wordSize)
	if ok := bytes.HasPrefix(putSum(body), sum); !ok || len(sum) < wordSize {
		return nil, 0, ok
	}
	return records, headSize + size + wordSize, true
}

// cut parts b behind n bytes, or behind all, if there are not so many.
func cut(b []byte, n int) ([]byte, []byte) {
	n = min(n, len(b))
	return b[:n], b[n:]
}

// takeHead reads how many bytes the records have, and tells whether what is there of a head can be one's.
func takeHead(b []byte) (int, bool) {
	b, _ = cut(b, headSize)
	filled := make([]byte, headSize) // noughts where bytes are missing: no length that begins so is less
	copy(filled, b)
	size := takeWord(filled[len(mark):])
	if size > mostBody {
		return 0, false
	}
	return int(size), bytes.HasPrefix(putHead(int(size)), b)
}

// takeRecords reads records that have size bytes together, as many as are there, and tells whether all of it can be theirs.
func takeRecords(body []byte, size int) ([]string, bool) {
	var records []string
	for at := 0; at < len(body); {
		r, next, ok := wire.TakeText(body, at, mostBytes)
		if !ok {
			return records, isTorn(body[at:], size-at)
		}
		records = append(records, r)
		at = next
	}
	return records, true
}

// isTorn tells whether b, which is no text's, can be the beginning of one that ends within size bytes.
func isTorn(b []byte, size int) bool {
	n, next, ok := wire.TakeInt(b, 0)
	if !ok { // if its length is torn itself, no number that begins so is less than with a 1 behind it
		n, next, ok = wire.TakeInt(append(bytes.Clone(b), 1), 0)
	}
	return ok && n >= 0 && n <= int64(min(size-next, mostBytes))
}
