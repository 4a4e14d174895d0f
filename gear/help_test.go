package gear_test

import (
	"math/big"
	"math/rand"
	"slices"
	"strings"
	"testing"

	"tussock/gear"
)

// numbers, sumAt, endsOf and sureOf follow the chapter's words by other means than the program.
var numbers = numbersOf()

func numbersOf() [256]uint64 {
	var out [256]uint64
	for c := range out {
		out[c] = numberOf(int64(c))
	}
	return out
}

// numberOf works with numbers that never wrap round by themselves.
func numberOf(c int64) uint64 {
	z := product(big.NewInt(c+1), "9E3779B97F4A7C15")
	z = product(mixed(z, 30), "BF58476D1CE4E5B9")
	z = product(mixed(z, 27), "94D049BB133111EB")
	return mixed(z, 31).Uint64()
}

func product(z *big.Int, digits string) *big.Int {
	by, _ := new(big.Int).SetString(digits, 16)
	all := new(big.Int).Lsh(big.NewInt(1), 64)
	return by.Mod(by.Mul(by, z), all)
}

func mixed(z *big.Int, n uint) *big.Int {
	moved := new(big.Int).Rsh(z, n)
	return moved.Xor(moved, z)
}

// sumAt is the sum with a chunk's i-th byte, made of each byte's share in it: of the bytes that were doubled 64 times nothing is left.
func sumAt(chunk string, i int) uint64 {
	sum := uint64(0)
	for j := max(65, i-63); j <= i; j++ {
		sum += numbers[chunk[j-1]] << (i - j)
	}
	return sum
}

func endsBySum(chunk string, i int) bool {
	if i <= 256 {
		return sumAt(chunk, i) < 1<<54
	}
	return sumAt(chunk, i) < 1<<58
}

// endOf is how many bytes of s its first chunk has.
func endOf(s string) int {
	for i := 65; i < min(len(s), 1024); i++ {
		if endsBySum(s, i) {
			return i
		}
	}
	return min(len(s), 1024)
}

func endsOf(s string) []int {
	var ends []int
	for from := 0; from < len(s); {
		from += endOf(s[from:])
		ends = append(ends, from)
	}
	return ends
}

// sureOf are those of the ends that stay, when one byte more comes: if that does not move them, no byte does.
func sureOf(s string) []int {
	ends, more := endsOf(s), endsOf(s+"a")
	return slices.DeleteFunc(ends, func(e int) bool { return !slices.Contains(more, e) })
}

// piecesOf cuts s at its ends: what is behind the last one is left out.
func piecesOf(s string, ends []int) []string {
	var out []string
	from := 0
	for _, e := range ends {
		out = append(out, s[from:e])
		from = e
	}
	return out
}

func chunksOf(s string) []string { return piecesOf(s, endsOf(s)) }

// countUp are n bytes that count up from first.
func countUp(first, n int) string {
	b := make([]byte, n)
	for i := range b {
		b[i] = byte(first + i)
	}
	return string(b)
}

// scattered are n bytes that a short rule makes.
func scattered(n int) string {
	b := make([]byte, n)
	for i := range b {
		b[i] = byte(i*i + (i>>4)*i*5 + i>>7)
	}
	return string(b)
}

func drawn(r *rand.Rand, n int) string {
	b := make([]byte, n)
	r.Read(b)
	return string(b)
}

// drawnPieces cuts s at drawn places; some pieces are empty.
func drawnPieces(r *rand.Rand, s string, most int) []string {
	var out []string
	for len(s) > 0 {
		n := min(r.Intn(most+1), len(s))
		out = append(out, s[:n])
		s = s[n:]
	}
	return out
}

// found draws texts of n bytes till one is as it should be.
func found(t *testing.T, n int, fits func(string) bool) string {
	t.Helper()
	r := rand.New(rand.NewSource(int64(n)))
	for range 1000000 {
		if s := drawn(r, n); fits(s) {
			return s
		}
	}
	t.Fatalf("no text of %d bytes fits", n)
	return ""
}

// endingAt is a text whose sum ends its first chunk with its n-th byte, the last one.
func endingAt(t *testing.T, n int) string {
	t.Helper()
	return found(t, n, func(s string) bool { return endsBySum(s, n) && endOf(s) == n })
}

// manyTexts are of all kinds that the chapter's words make a difference of.
func manyTexts() []string {
	r := rand.New(rand.NewSource(6))
	out := []string{strings.Repeat("some bytes, again and again; ", 200)}
	for _, n := range []int{0, 1, 2, 63, 64, 65, 66, 128, 255, 256, 257, 258, 1023, 1024, 1025, 1088, 1089, 2047, 2048, 2049, 5000} {
		out = append(out, scattered(n), drawn(r, n))
		for c := 0; c < 256; c += 20 {
			out = append(out, strings.Repeat(string([]byte{byte(c)}), n), countUp(c, n))
		}
	}
	return out
}

func repeated(c byte, n int) string {
	return strings.Repeat(string([]byte{c}), n)
}

func wantCuts(t *testing.T, s string, want ...int) {
	t.Helper()
	if got := gear.Cuts(s); !slices.Equal(got, want) {
		t.Errorf("Cuts of %d bytes %q: %d; want %d", len(s), head(s), got, want)
	}
}

func wantTold(t *testing.T, what string, got []string, want ...string) {
	t.Helper()
	if !slices.Equal(got, want) {
		t.Errorf("%s: %d chunks of %d bytes; want %d of %d", what, len(got), sizes(got), len(want), sizes(want))
	}
}

func sizes(l []string) []int {
	var out []int
	for _, s := range l {
		out = append(out, len(s))
	}
	return out
}

// head keeps what a failed test tells short.
func head(s string) string {
	return s[:min(len(s), 20)]
}
