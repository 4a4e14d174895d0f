package gear

import "tussock/api"

// How many of the sum's highest bits are 0 where a chunk ends: fewer, when it is long already, so that most chunks are not far from AvgChunk.
const (
	bitsWhileShort = 10
	bitsWhenLong   = 6
	sumBits        = 64
)

// chunk is what must be known of the chunk under way to see its end: how many bytes it has, and their sum.
type chunk struct {
	size int
	sum  uint64
}

// take adds the chunk's next byte: whether the chunk ends behind it, whatever comes. If so, the next one begins.
func (k *chunk) take(c byte) bool {
	k.size++
	if k.size > api.MinChunk {
		k.sum = 2*k.sum + Table(c)
	}
	if !k.full() {
		return false
	}
	*k = chunk{}
	return true
}

func (k *chunk) full() bool {
	switch {
	case k.size <= api.MinChunk:
		return false
	case k.size <= api.AvgChunk:
		return k.highest(bitsWhileShort) == 0
	case k.size < api.MaxChunk:
		return k.highest(bitsWhenLong) == 0
	}
	return true
}

// highest is what the sum's highest n bits say.
func (k *chunk) highest(n int) uint64 {
	return k.sum >> (sumBits - n)
}
