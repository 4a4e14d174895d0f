package wire_test

import (
	"bytes"
	"math"
	"math/big"
	"math/rand"
	"slices"
	"strings"
	"testing"

	"tussock/wire"
)

// numberBytes follows the chapter's words, in numbers without an end.
func numberBytes(n int64) []byte {
	u := big.NewInt(n)
	if n >= 0 {
		u.Mul(u, big.NewInt(2))
	} else {
		u.Mul(u, big.NewInt(-2))
		u.Sub(u, big.NewInt(1))
	}
	var b []byte
	seven, low := big.NewInt(128), new(big.Int)
	for u.Cmp(seven) >= 0 {
		u.DivMod(u, seven, low)
		b = append(b, byte(low.Int64())+128)
	}
	return append(b, byte(u.Int64()))
}

// edgeNumbers are those around 0, around each power of two, and at the ends.
func edgeNumbers() []int64 {
	out := []int64{math.MinInt64, math.MinInt64 + 1, math.MaxInt64, math.MaxInt64 - 1}
	for n := int64(-300); n <= 300; n++ {
		out = append(out, n)
	}
	for shift := 9; shift < 63; shift++ {
		p := int64(1) << shift
		out = append(out, p-1, p, p+1, -p-1, -p, -p+1)
	}
	slices.Sort(out)
	return slices.Compact(out)
}

func wantInt(t *testing.T, b []byte, at int, n int64, next int) {
	t.Helper()
	if m, p, ok := wire.TakeInt(b, at); m != n || p != next || !ok {
		t.Errorf("TakeInt(% X, %d): %d, %d, %v; want %d, %d, true", b, at, m, p, ok, n, next)
	}
}

func wantNoInt(t *testing.T, b []byte, at int) {
	t.Helper()
	if m, p, ok := wire.TakeInt(b, at); m != 0 || p != 0 || ok {
		t.Errorf("TakeInt(% X, %d): %d, %d, %v; want 0, 0, false", b, at, m, p, ok)
	}
}

// P1.1: the chapter's examples.
func TestPutIntExamples(t *testing.T) {
	ff := strings.Repeat("\xFF", 8)
	for n, want := range map[int64]string{
		0: "\x00", -1: "\x01", 1: "\x02", 64: "\x80\x01",
		math.MinInt64: "\xFF" + ff + "\x01",
		math.MaxInt64: "\xFE" + ff + "\x01",
	} {
		if b := wire.PutInt(nil, n); string(b) != want {
			t.Errorf("PutInt(none, %d): % X; want % X", n, b, want)
		}
	}
}

// P1.1: each number has the bytes that the chapter's words give, behind whatever stood there.
func TestPutIntBytes(t *testing.T) {
	for _, ahead := range [][]byte{nil, {}, {0}, {0x80}, []byte("ahead"), bytes.Repeat([]byte{0xFF}, 300)} {
		for _, n := range edgeNumbers() {
			want := append(slices.Clone(ahead), numberBytes(n)...)
			if got := wire.PutInt(ahead, n); !bytes.Equal(got, want) {
				t.Fatalf("PutInt(% X, %d): % X; want % X", ahead, n, got, want)
			}
		}
	}
}

// P1.1: at most ten bytes, and one for 0.
func TestPutIntLength(t *testing.T) {
	for _, c := range []struct {
		n    int64
		want int
	}{{0, 1}, {63, 1}, {-64, 1}, {64, 2}, {-65, 2}, {8191, 2}, {8192, 3}, {1<<62 - 1, 9}, {-1 << 62, 9}, {1 << 62, 10}, {-1<<62 - 1, 10}, {math.MaxInt64, 10}, {math.MinInt64, 10}} {
		if got := len(wire.PutInt(nil, c.n)); got != c.want {
			t.Errorf("%d takes %d bytes; want %d", c.n, got, c.want)
		}
	}
}

// P1.1, R3: new memory, spare room too; what is handed in is not written into, nor its spare room.
func TestPutIntNewMemory(t *testing.T) {
	for _, n := range []int64{0, 1, 64, math.MinInt64, math.MaxInt64} {
		checkNewMemory(t, func(b []byte) []byte { return wire.PutInt(b, n) })
	}
}

func checkNewMemory(t *testing.T, put func([]byte) []byte) {
	t.Helper()
	for size := range 9 {
		room := bytes.Repeat([]byte{0xA5}, 64)
		before := slices.Clone(room)
		first, second := put(room[:size]), put(room[:size])
		if !bytes.Equal(room, before) {
			t.Fatalf("written into, with %d bytes: % X", size, room)
		}
		kept := slices.Clone(second)
		fill(first, 0x11)
		if !bytes.Equal(room, before) || !bytes.Equal(second, kept) {
			t.Fatalf("shares memory, with %d bytes", size)
		}
		fill(room, 0x22)
		if !bytes.Equal(second, kept) {
			t.Fatalf("keeps what was handed in, with %d bytes", size)
		}
	}
}

// fill writes over all bytes of b and over its spare room.
func fill(b []byte, c byte) {
	b = b[:cap(b)]
	for i := range b {
		b[i] = c
	}
}

// P1.2: the chapter's examples.
func TestTakeIntExamples(t *testing.T) {
	wantInt(t, []byte{0x80, 0x01}, 0, 64, 2)
	wantNoInt(t, []byte{0x80, 0x00}, 0)
	wantNoInt(t, []byte{0x80}, 0)
	wantNoInt(t, []byte{0x00}, 1)
	wantNoInt(t, bytes.Repeat([]byte{0xFF}, 10), 0)
}

// P1.2, what follows: what was put is taken, whatever stands around it.
func TestTakeIntWhatWasPut(t *testing.T) {
	for _, n := range edgeNumbers() {
		for _, ahead := range []string{"", "\x00", "\x80\x80", "\xFF\xFF\xFF\xFF\xFF\xFF\xFF\xFF\xFF\xFF\xFF"} {
			b := wire.PutInt([]byte(ahead), n)
			wantInt(t, b, len(ahead), n, len(b))
			for _, behind := range []string{"\x00", "\x7F", "\x80", "\xFF\xFF"} {
				wantInt(t, append(slices.Clone(b), behind...), len(ahead), n, len(b))
			}
		}
	}
}

// P1.2: a place below 0, at the end, past it.
func TestTakeIntPlaces(t *testing.T) {
	b := []byte{0x02, 0x80, 0x01, 0x00}
	wantInt(t, b, 0, 1, 1)
	wantInt(t, b, 1, 64, 3)
	wantInt(t, b, 2, -1, 3)
	wantInt(t, b, 3, 0, 4)
	for _, at := range []int{-1, -2, math.MinInt, 4, 5, math.MaxInt} {
		wantNoInt(t, b, at)
	}
	for _, at := range []int{-1, 0, 1, math.MinInt, math.MaxInt} {
		wantNoInt(t, nil, at)
		wantNoInt(t, []byte{}, at)
	}
	// Bytes in the spare room are none of b's.
	wantNoInt(t, b[:2], 1)
	wantNoInt(t, b[:0], 0)
}

// P1.2: bytes that end too early; what follows: no number's bytes begin another one's.
func TestTakeIntTooEarly(t *testing.T) {
	for _, n := range edgeNumbers() {
		b := wire.PutInt(nil, n)
		for cut := range len(b) {
			wantNoInt(t, b[:cut:cut], 0)
		}
	}
	for size := range 12 {
		wantNoInt(t, bytes.Repeat([]byte{0x80}, size), 0)
		wantNoInt(t, bytes.Repeat([]byte{0xFF}, size), 0)
	}
}

// P1.2: bytes that are not as few as may be.
func TestTakeIntTooMany(t *testing.T) {
	for _, n := range edgeNumbers() {
		b := wire.PutInt(nil, n)
		b[len(b)-1] |= 0x80
		for range 12 {
			wantNoInt(t, append(slices.Clone(b), 0x00), 0)
			b = append(b, 0x80)
		}
	}
}

// P1.2: bytes that say more than 2^64 - 1, and those that say just that.
func TestTakeIntTooGreat(t *testing.T) {
	full, bare := strings.Repeat("\xFF", 9), strings.Repeat("\x80", 9)
	wantInt(t, []byte(full+"\x01"), 0, math.MinInt64, 10)
	wantInt(t, []byte(bare+"\x01"), 0, 1<<62, 10)
	for _, nine := range []string{full, bare} {
		for c := 2; c < 256; c++ {
			wantNoInt(t, append([]byte(nine), byte(c)), 0)
			wantNoInt(t, append([]byte(nine), byte(c), 0x00), 0)
			wantNoInt(t, append([]byte(nine), byte(c), 0x01), 0)
		}
	}
}

// numberAhead follows the chapter's words from the other side: the number that b begins with, and the place behind it.
func numberAhead(b []byte) (int64, int, bool) {
	end := slices.IndexFunc(b, func(c byte) bool { return c < 128 }) + 1
	if end == 0 || end > 1 && b[end-1] == 0 {
		return 0, 0, false
	}
	u := new(big.Int)
	for i := end - 1; i >= 0; i-- {
		u.Mul(u, big.NewInt(128))
		u.Add(u, big.NewInt(int64(b[i]%128)))
	}
	if u.BitLen() > 64 {
		return 0, 0, false
	}
	if u.Bit(0) == 1 {
		u.Neg(u.Add(u, big.NewInt(1)))
	}
	return u.Quo(u, big.NewInt(2)).Int64(), end, true
}

func checkAhead(t *testing.T, b []byte) {
	t.Helper()
	n, end, ok := numberAhead(b)
	if !ok {
		wantNoInt(t, b, 0)
		return
	}
	wantInt(t, b, 0, n, end)
	if again := wire.PutInt(nil, n); !bytes.Equal(again, b[:end]) {
		t.Errorf("% X, taken and put again: % X", b[:end], again)
	}
}

// P1.2, what follows: of all bytes up to two, those are taken that some number has, and they are put back as they were.
func TestTakeIntAllShort(t *testing.T) {
	for c := range 256 {
		checkAhead(t, []byte{byte(c)})
		for d := range 256 {
			checkAhead(t, []byte{byte(c), byte(d)})
		}
	}
}

// P1.2, what follows: the same of longer ones, up to past the tenth byte.
func TestTakeIntManyLong(t *testing.T) {
	r := rand.New(rand.NewSource(1))
	inner, last := []byte{0x80, 0x81, 0x82, 0xC0, 0xFE, 0xFF}, []byte{0x00, 0x01, 0x02, 0x03, 0x40, 0x7F, 0x80, 0xFF}
	for range 100000 {
		b := make([]byte, 1+r.Intn(12))
		for i := range b {
			b[i] = inner[r.Intn(len(inner))]
		}
		b[len(b)-1] = last[r.Intn(len(last))]
		checkAhead(t, b)
	}
}

// P1.2, R3, R4: reading changes nothing, and answers the same again.
func TestTakeIntLeavesBytes(t *testing.T) {
	b := []byte{0x80, 0x01, 0x80, 0x00}
	before := slices.Clone(b)
	for range 3 {
		wantInt(t, b, 0, 64, 2)
		wantNoInt(t, b, 2)
	}
	if !bytes.Equal(b, before) {
		t.Errorf("% X", b)
	}
}

// What follows, on any bytes: a number is taken only as PutInt puts it.
func FuzzTakeInt(f *testing.F) {
	f.Add([]byte{0x80, 0x01}, 0)
	f.Add([]byte{0x80, 0x00}, 0)
	f.Add(bytes.Repeat([]byte{0xFF}, 10), 0)
	f.Add([]byte{0x00}, -1)
	f.Add([]byte{0x00}, 1)
	f.Fuzz(func(t *testing.T, b []byte, at int) {
		n, next, ok := wire.TakeInt(b, at)
		if !ok {
			if n != 0 || next != 0 {
				t.Fatal(n, next)
			}
			return
		}
		if want := numberBytes(n); !bytes.Equal(b[at:next], want) {
			t.Fatalf("% X is no form of %d: % X", b[at:next], n, want)
		}
	})
}
