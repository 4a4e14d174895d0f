package gear_test

import (
	"math/rand"
	"slices"
	"strings"
	"testing"
	"unsafe"

	"tussock/gear"
)

// writeAll hands all pieces over, each by a call of its own, and closes: all chunks that were told.
func writeAll(c *gear.Cutter, pieces ...string) []string {
	var out []string
	for _, p := range pieces {
		out = append(out, c.Write(p)...)
	}
	return append(out, c.Close()...)
}

// P6.2: without a byte nothing is told.
func TestNewCutter(t *testing.T) {
	wantTold(t, "Close", gear.New().Close())
	wantTold(t, "Write", gear.New().Write())
	wantTold(t, "Write", gear.New().Write("", "", ""))
	c := gear.New()
	wantTold(t, "Close", c.Close())
	wantTold(t, "Close again", c.Close())
	wantTold(t, "Write behind it", c.Write(countUp(0, 1000)), chunksOf(countUp(0, 1000))[:3]...)
	if gear.New() == gear.New() {
		t.Error("two cutters are one")
	}
}

// P6.2: a nil cutter tells nothing.
func TestNilCutter(t *testing.T) {
	var c *gear.Cutter
	wantTold(t, "Write", c.Write())
	wantTold(t, "Write", c.Write("", countUp(0, 1000), strings.Repeat("a", 3000)))
	wantTold(t, "Close", c.Close())
	wantTold(t, "Close", c.Close())
}

// R1: one that New did not make is no reason to panic.
func TestCutterOfNoCall(t *testing.T) {
	var c gear.Cutter
	wantTold(t, "Write", writeAll(&c, countUp(0, 1000)), chunksOf(countUp(0, 1000))...)
}

// P6.2: chunks are told with the byte that makes their end sure, not with the one ahead of it nor the one behind.
func TestWhichChunksAreToldAtOnce(t *testing.T) {
	texts := []string{countUp(0, 1000), strings.Repeat("a", 2100), repeated(240, 600), repeated(37, 300), scattered(3000)}
	for _, n := range []int{66, 67, 128, 255, 256, 257, 258} {
		s := endingAt(t, n)
		texts = append(texts, s+s+s)
	}
	for _, s := range texts {
		c := gear.New()
		var told []string
		for i := range len(s) {
			told = append(told, c.Write(s[i:i+1])...)
			wantTold(t, "with one byte more", told, piecesOf(s, sureOf(s[:i+1]))...)
		}
		told = append(told, c.Close()...)
		wantTold(t, "closed", told, chunksOf(s)...)
	}
}

// P6.2: how many bytes soever a Write gets, it tells just what is sure.
func TestWriteAtTheEdges(t *testing.T) {
	for _, s := range manyTexts() {
		c := gear.New()
		sure := sureOf(s)
		wantTold(t, "Write", c.Write(s), piecesOf(s, sure)...)
		wantTold(t, "Write of nothing", c.Write("", ""))
		from := 0
		if len(sure) > 0 {
			from = sure[len(sure)-1]
		}
		var rest []string
		if from < len(s) {
			rest = []string{s[from:]}
		}
		wantTold(t, "Close", c.Close(), rest...)
		wantTold(t, "Close again", c.Close())
	}
}

// P6.2: 64 bytes are no sure chunk, as more may come; 1023 bytes are none either, 1024 are.
func TestWhatWaits(t *testing.T) {
	a := strings.Repeat("a", 2048)
	for _, n := range []int{1, 63, 64, 65, 128, 256, 257, 1023} {
		c := gear.New()
		wantTold(t, "Write", c.Write(a[:n]))
		wantTold(t, "Write", c.Write(a[n:1023]))
		wantTold(t, "the 1024th", c.Write("b"), a[:1023]+"b")
		wantTold(t, "Close", c.Close())
	}
	c := gear.New()
	wantTold(t, "Write", c.Write(a), a[:1024], a[1024:])
	wantTold(t, "Close", c.Close())
	wantTold(t, "Write", c.Write(a[:1025]), a[:1024])
	wantTold(t, "Close", c.Close(), "a")
}

// P6.2: pieces that end right at a chunk's end, one byte ahead of it, one behind it.
func TestPiecesAroundAnEnd(t *testing.T) {
	for _, n := range []int{66, 128, 256, 257, 321} {
		s := endingAt(t, n)
		c := gear.New()
		wantTold(t, "right there", c.Write(s), s)
		wantTold(t, "right there again", c.Write(s), s)
		wantTold(t, "one ahead", c.Write(s[:n-1]))
		wantTold(t, "that one", c.Write(s[n-1:]), s)
		wantTold(t, "one behind", c.Write(s+s[:1]), s)
		wantTold(t, "without that one", c.Write(s[1:]), s)
		wantTold(t, "one ahead, and one", c.Write(s[:n-1], s[n-1:]+s[:1], s[1:]), s, s)
		wantTold(t, "one behind, by itself", c.Write(s, s[:1], s[1:n-1]), s)
		wantTold(t, "Close", c.Close(), s[:n-1])
	}
}

// P6.2: pieces of one call are as those of many.
func TestManyPiecesOfOneCall(t *testing.T) {
	s := scattered(6000)
	for _, n := range []int{1, 2, 7, 63, 64, 65, 300, 1024, 6000} {
		var pieces []string
		for p := range slices.Chunk([]byte(s), n) {
			pieces = append(pieces, "", string(p))
		}
		c := gear.New()
		wantTold(t, "Write", c.Write(append(pieces, "")...), piecesOf(s, sureOf(s))...)
		wantTold(t, "Close", c.Close(), s[5968:])
		wantTold(t, "one by one", writeAll(c, pieces...), chunksOf(s)...)
	}
}

// P6.2: empty pieces and calls without any change nothing.
func TestEmptyPieces(t *testing.T) {
	s := countUp(0, 1000)
	c := gear.New()
	var told []string
	for i := range len(s) {
		told = append(told, c.Write("", s[i:i+1], "")...)
		wantTold(t, "no pieces", c.Write())
		wantTold(t, "no pieces", c.Write(nil...))
		wantTold(t, "an empty one", c.Write(""))
	}
	wantTold(t, "Write", told, s[:321], s[321:583], s[583:857])
	wantTold(t, "Close", c.Close(), s[857:])
}

// P6.2: behind Close the cutter is as a new one, wherever the chunk was that was left.
func TestCutterBehindClose(t *testing.T) {
	s := scattered(6000)
	c := gear.New()
	for _, n := range []int{0, 1, 63, 64, 65, 66, 200, 256, 257, 378, 379, 380, 1000, 6000} {
		wantTold(t, "first", writeAll(c, s[:n]), chunksOf(s[:n])...)
		wantTold(t, "Close again", c.Close())
		wantTold(t, "Write of nothing", c.Write(""))
		wantTold(t, "then", writeAll(c, s), chunksOf(s)...)
	}
}

// P6.2: nothing of the sum that a chunk had at Close is left: it would show in the first bytes that count again.
func TestSumBehindClose(t *testing.T) {
	s := scattered(350)
	for _, n := range []int{66, 67, 80} {
		early := endingAt(t, n)
		c := gear.New()
		for i := range len(s) {
			wantTold(t, "left", writeAll(c, s[:i+1]), s[:i+1])
			wantTold(t, "then", c.Write(early), early)
		}
	}
}

// P6.2: a chunk that was told is not told again.
func TestCloseRightAtAnEnd(t *testing.T) {
	s := countUp(0, 321)
	c := gear.New()
	wantTold(t, "Write", c.Write(s), s)
	wantTold(t, "Close", c.Close())
	wantTold(t, "Write", c.Write(strings.Repeat("a", 1024)), strings.Repeat("a", 1024))
	wantTold(t, "Close", c.Close())
	wantTold(t, "Write", c.Write("a"))
	wantTold(t, "Close", c.Close(), "a")
}

// P6.2, R4: cutters that are used in turns do not know of one another.
func TestCuttersInTurns(t *testing.T) {
	r := rand.New(rand.NewSource(1))
	texts := []string{countUp(0, 5000), drawn(r, 5000), strings.Repeat("a", 5000), scattered(5000)}
	cutters := []*gear.Cutter{gear.New(), gear.New(), gear.New(), gear.New()}
	told := make([][]string, len(texts))
	for i := range 5000 {
		for k, c := range cutters {
			told[k] = append(told[k], c.Write(texts[k][i:i+1])...)
		}
	}
	for k, c := range cutters {
		wantTold(t, "in turns", append(told[k], c.Close()...), chunksOf(texts[k])...)
	}
}

// R3: what is handed in is neither written into nor kept, nor told as it is.
func TestWhatWasHandedIn(t *testing.T) {
	s := scattered(3000)
	b := []byte(s)
	shared := unsafe.String(&b[0], len(b)) // a text that the caller changes afterwards all the same
	pieces := make([]string, 3, 10)
	pieces[0], pieces[1], pieces[2] = shared[:379], shared[379:500], shared[500:2999]
	c := gear.New()
	told := c.Write(pieces...)
	if string(b) != s || pieces[0] != s[:379] || pieces[1] != s[379:500] || pieces[2] != s[500:2999] || strings.Join(pieces[:10], "") != s[:2999] {
		t.Error("what was handed in is not what it was")
	}
	clear(b)
	clear(pieces)
	told = append(told, c.Write(s[2999:])...)
	wantTold(t, "all", append(told, c.Close()...), chunksOf(s)...)
}

// R3: what was answered is the caller's alone.
func TestWhatWasHandedOut(t *testing.T) {
	s := scattered(6000)
	c := gear.New()
	first := c.Write(s[:2000])
	kept := slices.Clone(first)
	second := c.Write(s[2000:4000])
	wantTold(t, "first", first, kept...)
	clear(first[:cap(first)])
	kept = slices.Clone(second)
	second = append(second, "more")
	wantTold(t, "third", c.Write(s[4000:]), chunksOf(s)[len(first)+len(kept):21]...)
	wantTold(t, "second", second, append(kept, "more")...)
	last := c.Close()
	wantTold(t, "Close", last, s[5968:])
	wantTold(t, "behind it", writeAll(c, strings.Repeat("b", 3000)), chunksOf(strings.Repeat("b", 3000))...)
	wantTold(t, "what Close told", last, s[5968:])
}
