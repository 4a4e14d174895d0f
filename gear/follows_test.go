package gear_test

import (
	"math/rand"
	"slices"
	"strings"
	"testing"

	"tussock/gear"
)

// longTexts are of one byte, of bytes that count up, and of drawn ones.
func longTexts() []string {
	r := rand.New(rand.NewSource(3))
	out := []string{drawn(r, 50000), drawn(r, 50000), countUp(0, 20000), countUp(100, 20001), scattered(20000), strings.Repeat("a", 20000)}
	for _, c := range []byte{0, 17, 37, 59, 156, 240, 255} {
		out = append(out, repeated(c, 10000))
	}
	for range 5 { // few kinds of bytes, with long runs
		var b []byte
		for len(b) < 20000 {
			b = append(b, repeated(byte(r.Intn(4)*60), 1+r.Intn(200))...)
		}
		out = append(out, string(b))
	}
	return out
}

// P6.3: each chunk but the last one has 64 to 1024 bytes, the last one 1 to 1024; one behind the other they are the text.
func TestHowManyBytesChunksHave(t *testing.T) {
	for _, s := range append(manyTexts(), longTexts()...) {
		ends := gear.Cuts(s)
		from := 0
		for i, e := range ends {
			least := 64
			if i == len(ends)-1 {
				least = 1
			}
			if e-from < least || e-from > 1024 {
				t.Errorf("of %d bytes %q: the chunk %d has %d", len(s), head(s), i, e-from)
			}
			from = e
		}
		if from != len(s) {
			t.Errorf("of %d bytes %q: the last chunk ends at %d", len(s), head(s), from)
		}
	}
}

// P6.3: a cutter tells what Cuts says, however the bytes are cut into pieces.
func TestPiecesMakeNoDifference(t *testing.T) {
	r := rand.New(rand.NewSource(4))
	for _, s := range longTexts() {
		ends := gear.Cuts(s)
		want := piecesOf(s, ends)
		wantCuts(t, s, endsOf(s)...)
		wantTold(t, "one piece", writeAll(gear.New(), s), want...)
		for _, most := range []int{1, 2, 10, 64, 300, 1024, 5000} {
			wantTold(t, "a call a piece", writeAll(gear.New(), drawnPieces(r, s, most)...), want...)
			c := gear.New()
			told := c.Write(drawnPieces(r, s, most)...)
			wantTold(t, "one call", append(told, c.Close()...), want...)
		}
	}
}

// P6.3: the pieces that are told at once do not hang on how bytes came either.
func TestPiecesMakeNoDifferenceToWhatIsSure(t *testing.T) {
	r := rand.New(rand.NewSource(5))
	for range 300 {
		s := drawn(r, r.Intn(4000))
		want := piecesOf(s, sureOf(s))
		c := gear.New()
		var told []string
		for _, p := range drawnPieces(r, s, 1+r.Intn(500)) {
			told = append(told, c.Write(p)...)
		}
		wantTold(t, "Write", told, want...)
	}
}

// P6.2, P6.3: a chunk that is told stays one, whatever comes behind; one that waits may become another.
func TestWhatIsSureStays(t *testing.T) {
	r := rand.New(rand.NewSource(7))
	for range 200 {
		s := drawn(r, r.Intn(3000))
		c := gear.New()
		told := c.Write(s)
		for _, more := range []string{"", "a", repeated(240, 2000), strings.Repeat("a", 2000), drawn(r, 2000)} {
			chunks := piecesOf(s+more, gear.Cuts(s+more))
			if len(chunks) < len(told) || !slices.Equal(chunks[:len(told)], told) {
				t.Fatalf("%d bytes and %d more: chunks %d; told %d", len(s), len(more), sizes(chunks), sizes(told))
			}
		}
	}
}

// P6.3: where two texts begin alike they are cut alike, as far as chunks end within what is alike.
func TestTextsThatBeginAlike(t *testing.T) {
	r := rand.New(rand.NewSource(8))
	for range 200 {
		alike := drawn(r, r.Intn(4000))
		a := alike + "a" + drawn(r, r.Intn(2000))
		b := alike + "b" + drawn(r, r.Intn(2000))
		within := func(ends []int) []int {
			return slices.DeleteFunc(ends, func(e int) bool { return e > len(alike) })
		}
		first, second := within(gear.Cuts(a)), within(gear.Cuts(b))
		if !slices.Equal(first, second) {
			t.Fatalf("alike for %d bytes: %d and %d", len(alike), first, second)
		}
		if ends := gear.Cuts(alike); !slices.Equal(within(sureOf(alike)), first) || len(ends) < len(first) || !slices.Equal(ends[:len(first)], first) {
			t.Fatalf("of %d bytes: %d; with more behind: %d", len(alike), ends, first)
		}
	}
}

// P6.3: where a text ends, a chunk ends that goes on in a longer one.
func TestTextsEndIsNoCut(t *testing.T) {
	s := countUp(0, 1000)
	for n := 1; n < 321; n++ {
		wantCuts(t, s[:n], n)
	}
	wantCuts(t, s[:321], 321)
	wantCuts(t, s[:322], 321, 322)
	wantCuts(t, s[:583], 321, 583)
	wantCuts(t, s[:584], 321, 583, 584)
}

// P6.3: behind any cut a text is cut as if it began there.
func TestTextsFromTheirCutsOn(t *testing.T) {
	for _, s := range append(longTexts(), countUp(0, 1000), "a", strings.Repeat("a", 64)) {
		ends := gear.Cuts(s)
		for i, from := range ends[:min(len(ends), 40)] {
			var want []int
			for _, e := range ends[i+1:] {
				want = append(want, e-from)
			}
			wantCuts(t, s[from:], want...)
		}
	}
}

// P6.3: behind a cut that two texts share they are cut alike, whatever stands ahead of it.
func TestWhatStandsAheadMakesNoDifference(t *testing.T) {
	r := rand.New(rand.NewSource(9))
	s := drawn(r, 20000)
	for range 50 {
		ahead := drawn(r, r.Intn(3000)) + s
		moved := len(ahead) - len(s)
		shared := -1
		ends := gear.Cuts(s)
		for _, e := range gear.Cuts(ahead) {
			if shared < 0 && slices.Contains(ends, e-moved) {
				shared = e - moved
			}
			if shared >= 0 && !slices.Contains(ends, e-moved) {
				t.Fatalf("%d bytes ahead: the cut at %d is shared, not the one at %d", moved, shared, e-moved)
			}
		}
		if shared < 0 || shared == len(s) {
			t.Errorf("%d bytes ahead: no cut is shared", moved)
		}
	}
}

// P6.1 to P6.3: a text, and where it is cut into pieces, against the plain model.
func FuzzAsTheModel(f *testing.F) {
	f.Add([]byte(countUp(0, 1000)), []byte{0, 1, 64, 65, 255})
	f.Add([]byte(repeated(240, 600)), []byte{1})
	f.Add([]byte(strings.Repeat("a", 1100)), []byte{})
	f.Fuzz(func(t *testing.T, b, lengths []byte) {
		s := string(b)
		want := chunksOf(s)
		if ends := gear.Cuts(s); !slices.Equal(ends, endsOf(s)) {
			t.Fatalf("Cuts: %d; want %d", ends, endsOf(s))
		}
		c := gear.New()
		var told []string
		at := 0
		for _, n := range lengths {
			next := min(at+int(n), len(s))
			told = append(told, c.Write(s[at:next])...)
			at = next
			wantTold(t, "Write", told, piecesOf(s, sureOf(s[:at]))...)
		}
		told = append(told, c.Write(s[at:])...)
		wantTold(t, "all", append(told, c.Close()...), want...)
	})
}
