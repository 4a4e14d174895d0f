// Package wire is layer 1: see shared/doc/01-wire.md.
package wire

import "math/bits"

// A byte of a number carries seven of its bits; more stands beside them if another byte follows.
const (
	bitsEach  = 7
	more      = 1 << bitsEach
	lastShift = 63 // where the tenth byte's bits go: one of them alone has room in 64
)

// PutInt lays a number behind some bytes, TakeInt reads one.
func PutInt(b []byte, n int64) []byte {
	u := fold(n)
	return putBits(withRoom(b, width(u)), u)
}

func TakeInt(b []byte, at int) (int64, int, bool) {
	u, next, ok := takeBits(b, at)
	return unfold(u), next, ok
}

// PutText lays a text, its length ahead; TakeText reads one.
func PutText(b []byte, s string) []byte {
	u := fold(int64(len(s)))
	return append(putBits(withRoom(b, width(u)+len(s)), u), s...)
}

func TakeText(b []byte, at, most int) (string, int, bool) {
	n, from, ok := TakeInt(b, at)
	// The length is held against what is left, not added to the place: a great one would wrap round.
	if !ok || n < 0 || n > int64(most) || n > int64(len(b)-from) {
		return "", 0, false
	}
	next := from + int(n)
	return string(b[from:next]), next, true
}

// fold puts numbers below 0 between the others, so that small ones of either sign take few bytes.
func fold(n int64) uint64 {
	return uint64(n)<<1 ^ uint64(n>>63)
}

func unfold(u uint64) int64 {
	return int64(u>>1) ^ -int64(u&1)
}

// width is how many bytes u takes: 0 takes one, as if it had a bit.
func width(u uint64) int {
	return (bits.Len64(u|1) + bitsEach - 1) / bitsEach
}

// withRoom copies b, so that what is laid behind it never lands in the caller's spare room.
func withRoom(b []byte, room int) []byte {
	return append(make([]byte, 0, len(b)+room), b...)
}

func putBits(b []byte, u uint64) []byte {
	for u >= more {
		b = append(b, byte(u)|more)
		u >>= bitsEach
	}
	return append(b, byte(u))
}

func takeBits(b []byte, at int) (uint64, int, bool) {
	if at < 0 { // past the end the loop finds nothing by itself
		return 0, 0, false
	}
	var u uint64
	shift := 0
sevens:
	for i := at; i < len(b); i++ {
		c := b[i]
		switch {
		case shift == lastShift && c > 1:
			break sevens // past 2^64 - 1, or an eleventh byte
		case shift > 0 && c == 0:
			break sevens // nothing in the last byte: fewer would have done
		case c < more:
			return u | uint64(c)<<shift, i + 1, true
		}
		u |= uint64(c&^more) << shift
		shift += bitsEach
	}
	return 0, 0, false
}
