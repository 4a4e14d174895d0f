package gear_test

import (
	"strings"
	"testing"

	"tussock/gear"
)

// The sizes at which a chunk, or two, may or may not end.
var edges = []int{0, 1, 63, 64, 65, 128, 256, 257, 1023, 1024, 1025, 2048}

// P6.1: the chapter's examples, and others of that row of numbers that are known from elsewhere.
func TestSomeBytesNumbers(t *testing.T) {
	for c, want := range map[byte]uint64{
		0: 16294208416658607535, 97: 17189161910051005891,
		1: 0x6E789E6AA1B965F4, 2: 0x06C45D188009454F, 3: 0xF88BB8A8724C81EC, 4: 0x1B39896A51A8749B,
	} {
		if got := gear.Table(c); got != want {
			t.Errorf("Table(%d): %d; want %d", c, got, want)
		}
	}
}

// P6.1: every byte's number.
func TestEachBytesNumber(t *testing.T) {
	sum, all := uint64(0), uint64(0)
	for c, want := range numbers {
		got := gear.Table(byte(c))
		if got != want {
			t.Errorf("Table(%d): %X; want %X", c, got, want)
		}
		sum, all = sum+got, all^got
	}
	if sum != 0x05BC6A4A6D369615 || all != 0xF374E8A18656187D {
		t.Errorf("all numbers: sum %X, xor %X", sum, all)
	}
}

// P6.1: the chapter's examples.
func TestCutsOfTheExamples(t *testing.T) {
	wantCuts(t, "")
	wantCuts(t, strings.Repeat("a", 64), 64)
	wantCuts(t, strings.Repeat("a", 2000), 1024, 2000)
	wantCuts(t, countUp(0, 1000), 321, 583, 857, 1000)
}

// P6.1: texts whose cuts were worked out apart.
func TestCutsOfLongTexts(t *testing.T) {
	wantCuts(t, scattered(6000), 379, 756, 1030, 1321, 1586, 1999, 2114, 2453, 2733, 2998, 3264, 3370, 3633, 3928, 4313, 4503, 4766, 5095, 5397, 5677, 5968, 6000)
	wantCuts(t, strings.Repeat("some bytes, again and again; ", 200), 1024, 1142, 1244, 2268, 3292, 4316, 5340, 5413, 5800)
	wantCuts(t, repeated(37, 500), 72, 144, 216, 288, 360, 432, 500)
	wantCuts(t, repeated(59, 400), 126, 252, 378, 400)
}

// P6.1: at the edges of sizes, of a byte whose sum ends no chunk.
func TestCutsAtTheEdges(t *testing.T) {
	for _, n := range edges {
		s := strings.Repeat("a", n)
		switch {
		case n == 0:
			wantCuts(t, s)
		case n <= 1024:
			wantCuts(t, s, n)
		default:
			wantCuts(t, s, 1024, n)
		}
	}
	wantCuts(t, strings.Repeat("a", 2049), 1024, 2048, 2049)
	wantCuts(t, strings.Repeat("a", 1024+64), 1024, 1024+64)
}

// P6.1: texts of all kinds, at the edges of sizes too.
func TestCutsOfManyTexts(t *testing.T) {
	for _, s := range manyTexts() {
		wantCuts(t, s, endsOf(s)...)
	}
}

// P6.1: one byte alone never makes the highest ten bits 0: no chunk ends with its 65th byte, unless the bytes end.
func TestNoChunkEndsWithIts65thByte(t *testing.T) {
	for c := range 256 {
		for _, next := range []byte{0, 'a', 255} {
			s := strings.Repeat("a", 64) + string([]byte{byte(c), next})
			wantCuts(t, s, 66)
			wantCuts(t, s[:65], 65)
			wantTold(t, "Write", gear.New().Write(s[:65]))
		}
	}
}

// P6.1: that the highest six bits are 0 with the 65th byte is not enough.
func TestSixBitsDoNotEndAShortChunk(t *testing.T) {
	for _, c := range []byte{53, 203, 254} {
		if gear.Table(c)>>58 != 0 {
			t.Errorf("Table(%d): %X", c, gear.Table(c))
		}
		wantCuts(t, strings.Repeat("a", 64)+string([]byte{c, 'a', 'a'}), 67)
	}
}

// P6.1: chunks that the sum ends with such a byte: right there, whatever comes behind.
func TestCutsWhereTheSumEndsAChunk(t *testing.T) {
	for _, n := range []int{66, 67, 100, 128, 129, 255, 256, 257, 258, 300, 400} {
		s := endingAt(t, n)
		wantCuts(t, s, n)
		for _, c := range []byte{0, 'a', 255} {
			wantCuts(t, s+repeated(c, 1), n, n+1)
			wantCuts(t, s+repeated(c, 64), n, n+64)
		}
		wantCuts(t, s+strings.Repeat("a", 1025), n, n+1024, n+1025)
		wantCuts(t, s[:n-1], n-1)
	}
}

// P6.1: up to the 256th byte the highest six bits alone do not end a chunk; with the 257th they do.
func TestSixBitsAloneAtThe256thByte(t *testing.T) {
	s := found(t, 257, func(s string) bool {
		return sumAt(s, 256)>>58 == 0 && sumAt(s, 256)>>54 != 0 && endOf(s[:256]) == 256 && !endsBySum(s, 257)
	})
	wantCuts(t, s[:256], 256)
	wantCuts(t, s, 257)
	wantCuts(t, s+"a", endsOf(s+"a")...)
	if ends := gear.Cuts(s + "a"); ends[0] != 258 {
		t.Errorf("it ends with the byte %d", ends[0])
	}

	s = found(t, 257, func(s string) bool {
		return sumAt(s, 257)>>58 == 0 && sumAt(s, 257)>>54 != 0 && endOf(s[:257]) == 257
	})
	wantCuts(t, s+"a", 257, 258)

	// Of these bytes the sum does not change any more, and has six such bits, not ten.
	wantCuts(t, repeated(240, 256), 256)
	wantCuts(t, repeated(240, 257), 257)
	wantCuts(t, repeated(240, 258), 257, 258)
	wantCuts(t, repeated(156, 1000), 257, 514, 771, 1000)
}

// P6.1: with the 1024th byte a chunk ends, whatever the sum.
func TestCutsAfter1024Bytes(t *testing.T) {
	quiet := strings.Repeat("a", 1023)
	for c := range 256 {
		s := quiet + string([]byte{byte(c)})
		wantCuts(t, s, 1024)
		wantCuts(t, s+"a", 1024, 1025)
		wantCuts(t, s+quiet, 1024, 2047)
	}
}

// P6.1: a sum may end a chunk with the 1023rd byte; with the 1024th it makes no difference.
func TestCutsJustAhead1024Bytes(t *testing.T) {
	for _, n := range []int{1022, 1023, 1024} {
		quiet := strings.Repeat("a", n-8)
		s := quiet + found(t, 8, func(s string) bool { return endsBySum(quiet+s, n) && endOf(quiet+s) == n })
		wantCuts(t, s, n)
		wantCuts(t, s+"a", n, n+1)
		wantCuts(t, s+strings.Repeat("a", 64), n, n+64)
	}
}

// P6.1: the first 64 bytes of a chunk have no share in the sum; the 65th has.
func TestFirst64BytesDoNotCount(t *testing.T) {
	s := countUp(0, 321)
	for _, c := range []byte{0, 17, 'a', 255} {
		wantCuts(t, repeated(c, 64)+s[64:]+"a", 321, 322)
	}
	s = endingAt(t, 100)
	wantCuts(t, strings.Repeat("a", 64)+s[64:]+"a", 100, 101)
	for c := range 256 {
		changed := s[:64] + string([]byte{byte(c)}) + s[65:] + "a"
		wantCuts(t, changed, endsOf(changed)...)
	}
}

// P6.1: bytes that are left behind a cut are a chunk of their own, up to 64 of them without a look at the sum.
func TestCutsOfWhatIsLeft(t *testing.T) {
	s := countUp(0, 321)
	for n := range 64 {
		wantCuts(t, s+countUp(0, n+1), 321, 321+n+1)
	}
	wantCuts(t, s+s, 321, 642)
	wantCuts(t, s+s+s[:1], 321, 642, 643)
}

// R4: what Cuts answers hangs on its text alone. R3: it is new memory.
func TestCutsAgainAndAgain(t *testing.T) {
	s := scattered(6000)
	want := endsOf(s)
	first := gear.Cuts(s)
	for i := range first[:cap(first)] {
		first[:cap(first)][i] = -1
	}
	wantCuts(t, s, want...)
	second := gear.Cuts(s)
	wantCuts(t, s[:3000], endsOf(s[:3000])...)
	third := append(gear.Cuts(s), 1, 2, 3)
	fourth := append(gear.Cuts(s), 4, 5, 6)
	for i, e := range want {
		if second[i] != e || third[i] != e || fourth[i] != e {
			t.Fatalf("the end %d: %d, %d, %d; want %d", i, second[i], third[i], fourth[i], e)
		}
	}
	if third[len(want)] != 1 || fourth[len(want)] != 4 {
		t.Error("two answers share their room")
	}
}
