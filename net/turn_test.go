package net_test

import (
	"math"
	"testing"
)

// P15.2: which byte FTurn turns: the place modulo the length; of one below 0 that of -1 - At.
func TestWhichByteIsTurned(t *testing.T) {
	for _, x := range []struct {
		at   int
		want string
	}{
		{0, "Abcde"}, {1, "aBcde"}, {4, "abcdE"},
		{5, "Abcde"}, {6, "aBcde"}, {9, "abcdE"}, {10, "Abcde"}, {5000000, "Abcde"}, {5000003, "abcDe"},
		{-1, "Abcde"}, {-2, "aBcde"}, {-5, "abcdE"}, {-6, "Abcde"}, {-7, "aBcde"}, {-5000004, "abcDe"},
		{math.MaxInt, "abCde"}, {math.MaxInt - 1, "aBcde"}, {math.MinInt, "abCde"}, {math.MinInt + 1, "aBcde"}, // 2^63 - 1 = 5n + 2
		{math.MaxInt32, "abCde"}, {math.MinInt32, "abCde"}, {1 << 32, "aBcde"},
	} {
		b := newBench(t, shout, turn(x.at, 32))
		b.wantAsk(t, "abcde", x.want+"!")
		b.wantServed(t, x.want)
		b = newBench(t, func(frame string) string { return frame }, pass, turn(x.at, 32))
		b.wantAsk(t, "abcde", x.want)
		b.wantServed(t, "abcde")
		if t.Failed() {
			t.Fatalf("At %d", x.at)
		}
	}
}

// P15.2: a frame of one byte has one place.
func TestTurnOfOneByte(t *testing.T) {
	for _, at := range []int{0, 1, 2, -1, -2, 1000, math.MaxInt, math.MinInt} {
		b := newBench(t, shout, turn(at, 3))
		b.wantAsk(t, "a", "b!")
	}
}

// P15.2: By 0 leaves the frame as it is, 255 turns all bits of the byte; each By is its own exclusive or. The frame has its length still, whatever bytes come of it.
func TestByWhatIsTurned(t *testing.T) {
	for c := range 256 {
		for by := range 256 {
			frame := string([]byte{7, byte(c), 9})
			want := string([]byte{7, byte(c ^ by), 9})
			b := newBench(t, func(frame string) string { return frame }, turn(1, byte(by)))
			wantTexts(t, "turned there", b.Ask(frame), []string{want})
			wantTexts(t, "served", b.served, []string{want})
		}
	}
	b := newBench(t, shout, turn(1, 0), turn(2, 0))
	b.wantAsk(t, "abc", "abc!")
	b.wantCounts(t, 1, 0)
}

// P15.2: turned there and back, the same byte, and another one.
func TestTurnOnBothWays(t *testing.T) {
	same := func(frame string) string { return frame }
	b := newBench(t, same, turn(1, 255), turn(1, 255), turn(0, 32), turn(2, 32))
	b.wantAsk(t, "abc", "abc")
	b.wantAsk(t, "abc", "AbC")
	wantTexts(t, "serve", b.served, []string{"a\x9dc", "Abc"})
}

// P15.2: the length of the frame on that way counts: the answer's, on the way back.
func TestTurnByTheAnswersLength(t *testing.T) {
	b := newBench(t, func(string) string { return "abcdefg" }, turn(10, 32), turn(10, 32))
	b.wantAsk(t, "xyz", "abcDefg")
	b.wantServed(t, "xYz")
}

// P15.2: what is turned comes, so what waits comes behind it, as it was.
func TestTurnWhileOthersWait(t *testing.T) {
	b := newBench(t, shout, hold, hold, turn(1, 32), hold, turn(-1, 32))
	b.wantAsk(t, "ab", "")
	b.wantAsk(t, "cd", "")
	b.wantAsk(t, "ef", "Ab! eF! cd!")
	b.wantServed(t, "eF ab cd")
}
