package wire_test

import (
	"bytes"
	"hash/crc32"
	"math/rand"
	"slices"
	"testing"

	"tussock/wire"
)

// crcByBits follows the chapter's words bit by bit: bits turned, 04C11DB7, all ones ahead and behind.
func crcByBits(b []byte) uint32 {
	sum := ^uint32(0)
	for _, c := range b {
		for bit := range 8 {
			top := sum >> 31
			sum <<= 1
			if top != uint32(c>>bit&1) {
				sum ^= 0x04C11DB7
			}
		}
	}
	var turned uint32
	for bit := range 32 {
		turned |= sum >> bit & 1 << (31 - bit)
	}
	return ^turned
}

func randomBytes(r *rand.Rand, size int) []byte {
	b := make([]byte, size)
	for i := range b {
		b[i] = byte(r.Intn(256))
	}
	return b
}

// P1.4: the chapter's examples.
func TestCrcExamples(t *testing.T) {
	if got := wire.Crc([]byte("123456789")); got != 0xCBF43926 {
		t.Errorf("%08X", got)
	}
	if got := wire.Crc([]byte("1234"), nil, []byte("56789")); got != 0xCBF43926 {
		t.Errorf("in parts: %08X", got)
	}
	if got := wire.Crc(); got != 0 {
		t.Errorf("of none: %08X", got)
	}
}

// P1.4: no parts and empty parts.
func TestCrcOfNothing(t *testing.T) {
	for _, parts := range [][][]byte{nil, {}, {nil}, {{}}, {nil, {}, nil}} {
		if got := wire.Crc(parts...); got != 0 {
			t.Errorf("%d parts: %08X", len(parts), got)
		}
	}
}

// P1.4: every byte, alone and at each place of four.
func TestCrcBytes(t *testing.T) {
	for c := range 256 {
		for place := range 4 {
			b := make([]byte, 4)
			b[place] = byte(c)
			if got, want := wire.Crc(b), crcByBits(b); got != want {
				t.Errorf("% X: %08X; want %08X", b, got, want)
			}
		}
		if got, want := wire.Crc([]byte{byte(c)}), crcByBits([]byte{byte(c)}); got != want {
			t.Errorf("%02X: %08X; want %08X", c, got, want)
		}
	}
}

// P1.4: bytes of many lengths; a second oracle beside the one by bits.
func TestCrcLengths(t *testing.T) {
	r := rand.New(rand.NewSource(1))
	for size := range 600 {
		b := randomBytes(r, size)
		got := wire.Crc(b)
		if got != crcByBits(b) || got != crc32.ChecksumIEEE(b) {
			t.Errorf("% X: %08X", b, got)
		}
	}
	b := randomBytes(r, 1<<20)
	if wire.Crc(b) != crc32.ChecksumIEEE(b) {
		t.Error("of 2^20 bytes")
	}
}

// P1.4: however bytes are parted, the sum is that of the whole.
func TestCrcParts(t *testing.T) {
	r := rand.New(rand.NewSource(2))
	for range 500 {
		b := randomBytes(r, r.Intn(100))
		var parts [][]byte
		for rest := b; len(rest) > 0; {
			n := r.Intn(len(rest) + 1)
			parts = append(parts, rest[:n:n])
			rest = rest[n:]
		}
		if got, want := wire.Crc(parts...), crcByBits(b); got != want {
			t.Fatalf("% X in %d parts: %08X; want %08X", b, len(parts), got, want)
		}
	}
	if wire.Crc([]byte("a"), []byte("b")) == wire.Crc([]byte("b"), []byte("a")) {
		t.Error("the order of parts makes no difference")
	}
}

// What follows: one byte that is another one, or a run within 32 bits, makes another sum.
func TestCrcTellsFaults(t *testing.T) {
	r := rand.New(rand.NewSource(3))
	b := randomBytes(r, 40)
	sum := wire.Crc(b)
	for at := range b {
		for by := 1; by < 256; by++ {
			turned := slices.Clone(b)
			turned[at] ^= byte(by)
			if wire.Crc(turned) == sum {
				t.Fatalf("byte %d turned by %02X is not told", at, by)
			}
		}
	}
	for bit := range 8*len(b) - 31 {
		for range 20 {
			checkRunTold(t, b, sum, bit, r.Uint32()|1)
		}
	}
}

// checkRunTold turns the 32 bits from bit on, in the order in which they are summed, by a pattern.
func checkRunTold(t *testing.T, b []byte, sum uint32, bit int, pattern uint32) {
	t.Helper()
	turned := slices.Clone(b)
	for i := range 32 {
		if pattern>>i&1 == 1 {
			turned[(bit+i)/8] ^= 1 << ((bit + i) % 8)
		}
	}
	if wire.Crc(turned) == sum {
		t.Fatalf("bits from %d on turned by %08X are not told", bit, pattern)
	}
}

// R3, R4: summing changes nothing, and answers the same again.
func TestCrcLeavesBytes(t *testing.T) {
	room := []byte("123456789 and more")
	before := slices.Clone(room)
	for range 3 {
		if got := wire.Crc(room[:9]); got != 0xCBF43926 {
			t.Errorf("%08X", got)
		}
	}
	if !bytes.Equal(room, before) {
		t.Errorf("written into: %q", room)
	}
}
