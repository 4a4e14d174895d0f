package wire_test

import (
	"bytes"
	"math"
	"slices"
	"strings"
	"testing"

	"tussock/wire"
)

// edgeTexts have lengths where a length's bytes grow, and bytes of every kind.
func edgeTexts() []string {
	out := []string{"\x00", "\x80", "\xFF\xFE", "ab", "ba", "é\n", "\u2028世"}
	for _, size := range []int{0, 1, 2, 62, 63, 64, 65, 127, 128, 8191, 8192, 8193, 70000} {
		out = append(out, strings.Repeat("x", size), strings.Repeat("\xFF", size))
	}
	slices.Sort(out)
	return slices.Compact(out)
}

func textBytes(s string) []byte {
	return append(numberBytes(int64(len(s))), s...)
}

func wantText(t *testing.T, b []byte, at, most int, s string, next int) {
	t.Helper()
	if got, p, ok := wire.TakeText(b, at, most); got != s || p != next || !ok {
		t.Errorf("TakeText(% X, %d, %d): %q, %d, %v; want %q, %d, true", head(b), at, most, got, p, ok, s, next)
	}
}

func wantNoText(t *testing.T, b []byte, at, most int) {
	t.Helper()
	if got, p, ok := wire.TakeText(b, at, most); got != "" || p != 0 || ok {
		t.Errorf("TakeText(% X, %d, %d): %q, %d, %v; want empty, 0, false", head(b), at, most, got, p, ok)
	}
}

// head keeps what a failed test tells short.
func head(b []byte) []byte {
	return b[:min(len(b), 32)]
}

// P1.1, P1.3: the chapter's examples.
func TestTextExamples(t *testing.T) {
	b := wire.PutText(nil, "ab")
	if string(b) != "\x04ab" {
		t.Errorf("% X", b)
	}
	wantText(t, b, 0, 2, "ab", 3)
	wantNoText(t, b, 0, 1)
}

// P1.1: each text has its length's bytes and its own, behind whatever stood there.
func TestPutTextBytes(t *testing.T) {
	for _, ahead := range [][]byte{nil, {}, {0}, {0x80}, []byte("ahead"), bytes.Repeat([]byte{0xFF}, 300)} {
		for _, s := range edgeTexts() {
			want := append(slices.Clone(ahead), textBytes(s)...)
			if got := wire.PutText(ahead, s); !bytes.Equal(got, want) {
				t.Errorf("PutText(% X, %d bytes): % X; want % X", head(ahead), len(s), head(got), head(want))
			}
		}
	}
}

// P1.1, R3: new memory, spare room too.
func TestPutTextNewMemory(t *testing.T) {
	for _, s := range []string{"", "a", "text", strings.Repeat("x", 40), strings.Repeat("x", 100)} {
		checkNewMemory(t, func(b []byte) []byte { return wire.PutText(b, s) })
	}
}

// P1.3, what follows: what was put is taken, whatever stands around it.
func TestTakeTextWhatWasPut(t *testing.T) {
	for _, s := range edgeTexts() {
		for _, ahead := range []string{"", "\x00", "\x80\x80"} {
			b := wire.PutText([]byte(ahead), s)
			for _, behind := range []string{"", "\x00", "\xFF", "more"} {
				wantText(t, append(slices.Clone(b), behind...), len(ahead), len(s), s, len(b))
			}
		}
	}
}

// P1.3: the greatest length that is taken, and one more.
func TestTakeTextMost(t *testing.T) {
	for _, s := range edgeTexts() {
		b := wire.PutText(nil, s)
		wantText(t, b, 0, len(s), s, len(b))
		wantText(t, b, 0, len(s)+1, s, len(b))
		wantText(t, b, 0, math.MaxInt, s, len(b))
		wantNoText(t, b, 0, len(s)-1)
		wantNoText(t, b, 0, -1)
		wantNoText(t, b, 0, math.MinInt)
	}
}

// P1.3: a length below 0.
func TestTakeTextBelowNone(t *testing.T) {
	for _, n := range []int64{-1, -2, -3, -64, -65, math.MinInt64 + 1, math.MinInt64} {
		b := append(numberBytes(n), "some bytes behind it"...)
		for _, most := range []int{math.MinInt, -64, -1, 0, 1, 64, math.MaxInt} {
			wantNoText(t, b, 0, most)
			wantNoText(t, append([]byte("ahead"), b...), 5, most)
		}
	}
}

// P1.3: bytes that end too early, within the length or within the text; what follows: no text's bytes begin another one's.
func TestTakeTextTooEarly(t *testing.T) {
	for _, s := range edgeTexts() {
		b := wire.PutText(nil, s)
		for cut := 0; cut < len(b); cut += 1 + len(b)/50 {
			wantNoText(t, b[:cut], 0, math.MaxInt)
			wantNoText(t, b[:cut:cut], 0, len(s))
		}
		wantNoText(t, b[:len(b)-1], 0, len(s))
	}
}

// P1.3: a length past all that there can be.
func TestTakeTextTooGreat(t *testing.T) {
	for _, n := range []int64{3, 1 << 31, 1 << 32, 1 << 62, math.MaxInt64 - 1, math.MaxInt64} {
		b := append(numberBytes(n), "ab"...)
		wantNoText(t, b, 0, math.MaxInt)
		wantNoText(t, append([]byte("ahead"), b...), 5, math.MaxInt)
	}
}

// P1.3: a length in another form than its own.
func TestTakeTextLengthForm(t *testing.T) {
	for _, b := range []string{"\x84\x00ab", "\x80\x00", "\x80\x80\x00", "\x84", strings.Repeat("\xFF", 10) + "\x01ab"} {
		wantNoText(t, []byte(b), 0, math.MaxInt)
	}
}

// P1.3: a place below 0, at the end, past it.
func TestTakeTextPlaces(t *testing.T) {
	b := []byte("\x04ab\x00\x02c")
	wantText(t, b, 0, 9, "ab", 3)
	wantText(t, b, 3, 9, "", 4)
	wantText(t, b, 3, 0, "", 4)
	wantText(t, b, 4, 9, "c", 6)
	for _, at := range []int{-1, -3, math.MinInt, 6, 7, math.MaxInt} {
		wantNoText(t, b, at, 9)
		wantNoText(t, b, at, math.MaxInt)
	}
	for _, at := range []int{-1, 0, 1} {
		wantNoText(t, nil, at, 9)
		wantNoText(t, []byte{}, at, 0)
	}
}

// R3: a text that was taken stays as it was, whatever becomes of the bytes; reading changes none of them.
func TestTakeTextNewMemory(t *testing.T) {
	b := []byte("\x04ab\xFF\xFF")
	before := slices.Clone(b)
	s, _, _ := wire.TakeText(b, 0, 2)
	if !bytes.Equal(b, before) {
		t.Errorf("written into: % X", b)
	}
	fill(b, 'x')
	if s != "ab" {
		t.Errorf("keeps what was handed in: %q", s)
	}
}

// What follows: numbers and texts one behind the other are taken one by one as they were put.
func TestTakeInRow(t *testing.T) {
	var b []byte
	for i, s := range edgeTexts() {
		b = wire.PutText(wire.PutInt(b, int64(-i)), s)
	}
	at := 0
	for i, s := range edgeTexts() {
		n, next, ok := wire.TakeInt(b, at)
		if n != int64(-i) || !ok {
			t.Fatal(i, n, next, ok)
		}
		wantText(t, b, next, len(s), s, next+len(textBytes(s)))
		at = next + len(textBytes(s))
	}
	if at != len(b) {
		t.Errorf("ends at %d of %d", at, len(b))
	}
}

// What follows, on any bytes: a text is taken only as PutText puts it, and only up to the length asked.
func FuzzTakeText(f *testing.F) {
	f.Add([]byte("\x04ab"), 0, 2)
	f.Add([]byte("\x04ab"), 0, 1)
	f.Add([]byte("\x03ab"), 0, 9)
	f.Add([]byte("\x84\x00ab"), 0, 9)
	f.Add([]byte("\x00"), 1, 0)
	f.Fuzz(func(t *testing.T, b []byte, at, most int) {
		s, next, ok := wire.TakeText(b, at, most)
		if !ok {
			if s != "" || next != 0 {
				t.Fatal(s, next)
			}
			return
		}
		if len(s) > most || !bytes.Equal(b[at:next], textBytes(s)) {
			t.Fatalf("% X at %d, most %d: %q, %d", b, at, most, s, next)
		}
	})
}
