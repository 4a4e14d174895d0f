package object_test

import (
	"math"
	"strings"
	"testing"

	"tussock/api"
	"tussock/object"
)

// P8.2: the chapter's examples.
func TestTakeExamples(t *testing.T) {
	if pairs, e := object.TakeLeaf("L\x02\x02k\x02"); e != api.ErrObjectByte || len(pairs) != 0 {
		t.Error(pairs, e)
	}
	if pairs, e := object.TakeLeaf("L\x02\x02k\x02v"); e != api.OK || len(pairs) != 1 || pairs[0] != (api.Pair{Key: "k", Val: "v"}) {
		t.Error(pairs, e)
	}
	if data, e := object.TakeChunk("Cabc"); e != api.OK || data != "abc" {
		t.Error(data, e)
	}
	if f, e := object.TakeFan("F\x02\x02" + id('a') + "\n"); e != api.OK || f.Level != 1 || len(f.Kids) != 1 || f.Kids[0] != (api.Part{Id: id('a'), Size: 5}) {
		t.Error(f, e)
	}
}

// some are right things of each kind, short ones.
func some() []thing {
	return []thing{
		chunk(""), chunk("abc"), chunk("CC"),
		fan(1, 1), fan(20, 3), fanOf([]int64{262143, 1}),
		leaf{}, pairs(1), pairs(5), leaf{{Key: "a", Val: plainValue(api.Entry{Kind: api.KDir, Id: id(7), Size: 64})}},
		branch(1, 1), branch(20, 3), branchOf([]int64{4032, 64}),
		api.Commit{Tree: id(1)},
		api.Commit{Tree: id(1), Parents: []string{id(2), id(3)}, Who: "ann", Time: 1 << 62, Note: sized(70)},
	}
}

// P8.2: empty bytes, and each byte alone, are nobody's but the empty chunk's.
func TestTakeNothing(t *testing.T) {
	for _, mark := range []byte(marks) {
		wantNotTaken(t, "no bytes", mark, "")
		for c := range 256 {
			b := string([]byte{byte(c)})
			if mark == 'C' && c == 'C' {
				wantTaken(t, "a chunk without data", b, chunk(""))
			} else {
				wantNotTaken(t, "one byte", mark, b)
			}
		}
	}
}

// P8.2: right bytes under another first byte, or asked for as another thing, are not taken.
func TestTakeAnotherFirstByte(t *testing.T) {
	for _, x := range some() {
		b := plainBytes(x)
		for _, mark := range []byte(marks) {
			if mark != markOf(x) {
				wantNotTaken(t, "as another thing", mark, b)
			}
		}
		for c := range 256 {
			if byte(c) != b[0] {
				wantNotTaken(t, "another first byte", markOf(x), string([]byte{byte(c)})+b[1:])
			}
		}
		if markOf(x) != 'C' {
			wantNotTaken(t, "without its first byte", markOf(x), b[1:])
			wantNotTaken(t, "the first byte twice", markOf(x), b[:1]+b)
		}
	}
}

// P8.2: bytes cut short anywhere, or with more behind, are not taken, but as chunks.
func TestTakeCutOrLonger(t *testing.T) {
	for _, x := range some() {
		b, mark := plainBytes(x), markOf(x)
		if mark == 'C' {
			continue
		}
		for cut := range b {
			wantNotTaken(t, "cut short", mark, b[:cut])
		}
		for c := range 256 {
			wantNotTaken(t, "one byte more", mark, b+string([]byte{byte(c)}))
		}
		wantNotTaken(t, "twice", mark, b+b)
		wantNotTaken(t, "a chunk behind", mark, b+"Cabc")
	}
}

// P8.2, P8.5: each byte changed to each other one: taken if the model takes it, and then as something else.
func TestTakeEachByteChanged(t *testing.T) {
	for _, x := range some() {
		b := plainBytes(x)
		for i := range b {
			for c := range 256 {
				if byte(c) != b[i] {
					checkTaken(t, x, b[:i]+string([]byte{byte(c)})+b[i+1:])
				}
			}
		}
	}
}

// checkTaken asks for bytes that are not x's.
func checkTaken(t *testing.T, x thing, b string) {
	t.Helper()
	mark := markOf(x)
	y, ok := plainTake(mark, b)
	if !ok {
		wantNotTaken(t, "changed", mark, b)
		return
	}
	wantTaken(t, "changed", b, y)
	if same(x, y) {
		t.Errorf("% X and % X say the same", b, plainBytes(x))
	}
}

// longer are other forms of a number that is 0 to 63: with noughts, and wrapped round.
func longer(n int64) []string {
	c := byte(2 * n)
	return []string{
		string([]byte{c | 128, 0}), string([]byte{c | 128, 128, 0}),
		string([]byte{c | 128}) + strings.Repeat("\x80", 8) + "\x00",
		string([]byte{c | 128}) + strings.Repeat("\x80", 8) + "\x02",
		string([]byte{c | 128}) + strings.Repeat("\x80", 9) + "\x01",
	}
}

// P8.2: each number in another form, and each count that says more, or less, than there is.
func TestTakeNumbersOtherwise(t *testing.T) {
	a, one := id('a'), plainNumber(1)
	for _, c := range []struct{ ahead, behind string }{
		{"F", one + a + one},             // a fan's Level
		{"F" + one, a + one},             // how many Kids
		{"F" + one + one + a, ""},        // a Size
		{"L", "\x02k\x02v"},              // how many pairs
		{"L" + one, "k\x02v"},            // how long a key is
		{"L" + one + "\x02k", "v"},       // how long a value is
		{"B", one + "\x02k" + a + one},   // a branch's Level
		{"B" + one, "\x02k" + a + one},   // how many Kids
		{"B" + one + one, "k" + a + one}, // how long a Last is
		{"B" + one + one + "\x02k" + a, ""},
		{"K" + a, id('b') + "\x02w\x00\x02n"}, // how many Parents
		{"K" + a + "\x00", "w\x00\x02n"},      // how long Who is
		{"K" + a + "\x00\x02w", "\x02n"},      // Time
		{"K" + a + "\x00\x02w\x00", "n"},      // how long Note is
	} {
		mark := c.ahead[0]
		if y, e := takeThing(mark, c.ahead+one+c.behind); e != api.OK {
			t.Errorf("% X: %d, %v; want it taken", c.ahead+one+c.behind, e, y)
		}
		for _, form := range longer(1) {
			wantNotTaken(t, "a number's other form", mark, c.ahead+form+c.behind)
		}
		wantNotTaken(t, "no number", mark, c.ahead+c.behind)
		for _, n := range []int64{-1, -2, math.MinInt64} {
			wantNotTaken(t, "below 0", mark, c.ahead+plainNumber(n)+c.behind)
		}
		wantNotTaken(t, "past the greatest", mark, c.ahead+plainNumber(math.MaxInt64)+c.behind)
	}
}

// P8.2: counts that say more, or less, than there is.
func TestTakeCounts(t *testing.T) {
	kid, pair, link := id('a')+plainNumber(1), "\x02k\x02v", "\x02k"+id('a')+plainNumber(1)
	for n := int64(-70); n < 300; n++ {
		count := plainNumber(n)
		for mark, b := range map[byte]string{
			'F': "F\x02" + count + kid, 'L': "L" + count + pair, 'B': "B\x02" + count + link,
			'K': "K" + id(1) + count + id(2) + "\x00\x00\x00",
		} {
			if y, ok := plainTake(mark, b); ok {
				wantTaken(t, "a count", b, y)
			} else {
				wantNotTaken(t, "a count", mark, b)
			}
		}
	}
	for _, n := range []int64{1 << 20, 1 << 31, 1 << 32, 1<<32 + 1, 1<<62 + 1, math.MaxInt64, math.MinInt64, math.MinInt64 + 1} {
		count := plainNumber(n)
		wantNotTaken(t, "a great count", 'F', "F\x02"+count+kid)
		wantNotTaken(t, "a great count", 'L', "L"+count+pair)
		wantNotTaken(t, "a great count", 'L', "L"+count)
		wantNotTaken(t, "a great count", 'B', "B\x02"+count+link)
		wantNotTaken(t, "a great count", 'K', "K"+id(1)+count+id(2)+"\x00\x00\x00")
		wantNotTaken(t, "a great Level", 'F', "F"+count+"\x02"+kid)
		wantNotTaken(t, "a great Level", 'B', "B"+count+"\x02"+link)
		wantNotTaken(t, "a long key", 'L', "L\x02"+count+"k\x02v")
	}
}

// P8.2: bytes that are far too long are refused, too.
func TestTakeLongBytes(t *testing.T) {
	for _, mark := range []byte(marks) {
		for _, n := range []int{1025, api.MaxObject, 1 << 20} {
			for _, c := range []string{"\x00", "\x02", "\xFF", "a"} {
				wantNotTaken(t, "long", mark, string([]byte{mark})+strings.Repeat(c, n))
			}
		}
	}
}
