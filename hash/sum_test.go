package hash_test

import (
	"crypto/sha256"
	"math/rand"
	"slices"
	"strings"
	"testing"

	"tussock/hash"
)

// sumOf is the library's own SHA-256, which shares no line with the program's.
func sumOf(s string) string {
	sum := sha256.Sum256([]byte(s))
	return string(sum[:])
}

func randomText(r *rand.Rand, size int) string {
	b := make([]byte, size)
	for i := range b {
		b[i] = byte(r.Intn(256))
	}
	return string(b)
}

func wantSum(t *testing.T, want string, parts ...string) {
	t.Helper()
	if got := hash.Sum(parts...); got != want {
		t.Errorf("Sum of %d parts, %d bytes: %x; want %x", len(parts), len(strings.Join(parts, "")), got, want)
	}
}

func wantDigits(t *testing.T, want string, parts ...string) {
	t.Helper()
	if got := hash.Hex(hash.Sum(parts...)); got != want {
		t.Errorf("Hex(Sum) of %d parts: %s; want %s", len(parts), got, want)
	}
}

const (
	digitsOfAbc  = "ba7816bf8f01cfea414140de5dae2223b00361a396177a9cb410ff61f20015ad"
	digitsOfNone = "e3b0c44298fc1c149afbf4c8996fb92427ae41e4649b934ca495991b7852b855"
)

// P2.1: the chapter's examples.
func TestSumExamples(t *testing.T) {
	wantDigits(t, digitsOfAbc, "abc")
	wantDigits(t, digitsOfNone)
}

// P2.1: sums that are known from elsewhere, written out.
func TestSumKnown(t *testing.T) {
	wantDigits(t, "248d6a61d20638b8e5c026930c3e6039a33ce45964ff2167f6ecedd419db06c1",
		"abcdbcdecdefdefgefghfghighijhijkijkljklmklmnlmnomnopnopq")
	wantDigits(t, "cf5b16a778af8380036ce59e7b0492370b249b11e8f07a51afac45037afee9d1",
		"abcdefghbcdefghicdefghijdefghijkefghijklfghijklmghijklmnhijklmnoijklmnopjklmnopqklmnopqrlmnopqrsmnopqrstnopqrstu")
	wantDigits(t, "cdc76e5c9914fb9281a1c7e284d73e67f1809a48a497200e046d39ccc7112cd0",
		strings.Repeat("a", 1000000))
}

// P2.1: no parts, and empty ones, alone and among others.
func TestSumOfNothing(t *testing.T) {
	for _, parts := range [][]string{nil, {}, {""}, {"", "", ""}, slices.Repeat([]string{""}, 200)} {
		wantDigits(t, digitsOfNone, parts...)
	}
	for _, parts := range [][]string{{"", "abc"}, {"abc", ""}, {"", "a", "", "", "bc", ""}} {
		wantDigits(t, digitsOfAbc, parts...)
	}
}

// P2.1: a sum has 32 bytes, however many are summed.
func TestSumLength(t *testing.T) {
	for _, size := range []int{0, 1, 31, 32, 33, 64, 1000} {
		if got := len(hash.Sum(strings.Repeat("x", size))); got != 32 {
			t.Errorf("of %d bytes: %d", size, got)
		}
	}
}

// P2.1: every length up to past five blocks, so that each way to fill the last ones is there (55, 56, 63, 64, 65, 119, 120 among them).
func TestSumLengths(t *testing.T) {
	r := rand.New(rand.NewSource(1))
	for size := range 330 {
		for _, s := range []string{randomText(r, size), strings.Repeat("\x00", size), strings.Repeat("\xFF", size), strings.Repeat("\x80", size)} {
			wantSum(t, sumOf(s), s)
		}
	}
}

// P2.1: far longer texts, around powers of two and at an object's greatest size.
func TestSumLong(t *testing.T) {
	r := rand.New(rand.NewSource(2))
	for _, size := range []int{1000, 1023, 1024, 1025, 8191, 8192, 32767, 32768, 32769, 65535, 65536, 262144, 1<<20 + 37} {
		s := randomText(r, size)
		wantSum(t, sumOf(s), s)
	}
}

// P2.1: so many bytes that their bits no longer have room in 32.
func TestSumPast32Bits(t *testing.T) {
	const size, count = 1 << 20, 1<<9 + 1
	part := strings.Repeat("tussock\x00", size/8)
	oracle := sha256.New()
	for range count {
		oracle.Write([]byte(part))
	}
	if got, want := hash.Sum(slices.Repeat([]string{part}, count)...), string(oracle.Sum(nil)); got != want {
		t.Errorf("%x; want %x", got, want)
	}
}

// P2.1: every byte value, alone, at each place of a number, and all of them in a row.
func TestSumBytes(t *testing.T) {
	var all []byte
	for c := range 256 {
		all = append(all, byte(c))
		one := string([]byte{byte(c)})
		wantSum(t, sumOf(one), one)
		for place := range 8 {
			b := make([]byte, 8)
			b[place] = byte(c)
			wantSum(t, sumOf(string(b)), string(b))
		}
	}
	wantSum(t, sumOf(string(all)), string(all))
}

// P2.1: the parts are in order: other texts make other sums here.
func TestSumOrder(t *testing.T) {
	wantSum(t, sumOf("ab"), "a", "b")
	wantSum(t, sumOf("ba"), "b", "a")
	if hash.Sum("a", "b") == hash.Sum("b", "a") {
		t.Error("the order of parts makes no difference")
	}
	if hash.Sum("a") == hash.Sum("a\x00") || hash.Sum("a") == hash.Sum("a\x80") || hash.Sum("") == hash.Sum("\x00") {
		t.Error("the ending of a text is taken for its bytes")
	}
}

// P2.3: cut once, at each place.
func TestSumCutOnce(t *testing.T) {
	r := rand.New(rand.NewSource(3))
	for _, size := range []int{1, 2, 55, 56, 63, 64, 65, 119, 120, 128, 129, 200} {
		s := randomText(r, size)
		want := sumOf(s)
		for cut := range size + 1 {
			wantSum(t, want, s[:cut], s[cut:])
			wantSum(t, want, s[:cut], "", s[cut:], "")
		}
	}
}

// P2.3: cut into parts of one length, from single bytes to past two blocks.
func TestSumCutEvenly(t *testing.T) {
	s := randomText(rand.New(rand.NewSource(4)), 700)
	want := sumOf(s)
	for step := 1; step < 140; step++ {
		var parts []string
		for rest := s; len(rest) > 0; {
			n := min(step, len(rest))
			parts = append(parts, rest[:n])
			rest = rest[n:]
		}
		wantSum(t, want, parts...)
	}
}

// P2.3: cut anywhere, empty parts among them.
func TestSumCutAnywhere(t *testing.T) {
	r := rand.New(rand.NewSource(5))
	for range 2000 {
		s := randomText(r, r.Intn(400))
		wantSum(t, sumOf(s), cutAnywhere(r, s)...)
	}
}

func cutAnywhere(r *rand.Rand, s string) []string {
	var parts []string
	for len(s) > 0 {
		n := min(r.Intn(1+r.Intn(150)), len(s))
		parts = append(parts, s[:n])
		s = s[n:]
	}
	return parts
}

// R3, R4: summing changes nothing of what it is handed, spare room too, and answers the same again.
func TestSumLeavesParts(t *testing.T) {
	room := []string{"a", "", "bc", "and", "more"}
	before := slices.Clone(room)
	for range 3 {
		wantDigits(t, digitsOfAbc, room[:3]...)
		wantDigits(t, digitsOfNone)
	}
	if !slices.Equal(room, before) {
		t.Errorf("written into: %q", room)
	}
}

// P2.1, P2.3, on any bytes, cut anywhere.
func FuzzSum(f *testing.F) {
	f.Add("abc", 1, 2)
	f.Add("", 0, 0)
	f.Add(strings.Repeat("x", 64), 63, 64)
	f.Add(strings.Repeat("\xFF", 120), 55, 56)
	f.Fuzz(func(t *testing.T, s string, first, second int) {
		first = min(max(first, 0), len(s))
		second = min(max(second, first), len(s))
		want := sumOf(s)
		wantSum(t, want, s)
		wantSum(t, want, s[:first], s[first:second], s[second:])
	})
}
