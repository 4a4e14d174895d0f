package net_test

import (
	"strconv"
	"strings"
	"testing"
)

// row asks for frames one by one: what comes back of each, split by semicolons.
func row(t *testing.T, b *bench, frames, want string) {
	t.Helper()
	backs := strings.Split(want, ";")
	for i, frame := range strings.Fields(frames) {
		b.wantAsk(t, frame, backs[i])
	}
}

// P15.2: held on the way there: what waits comes behind the next frame that comes, in the order in which it began to wait, once.
func TestHeldThere(t *testing.T) {
	for _, x := range []struct{ fates, frames, want, served string }{
		{"h", "a b c d", ";b! a!;c!;d!", "b a c d"},
		{"hh", "a b c d", ";;c! a! b!;d!", "c a b d"},
		{"hhhh", "a b c d e f", ";;;;e! a! b! c! d!;f!", "e a b c d f"},
		{"hppph", "a b c d", ";b! a!;;d! c!", "b a d c"},
		{"hpppphhh", "a b c d e f", ";b! a!;;;;f! c! d! e!", "b a c f d e"}, // c takes the fifth, its answer the sixth
		{"hl", "a b c d", ";;c! a!;d!", "c a d"},
		{"hlll", "a b c d e", ";;;;e! a!", "e a"},
		{"hlhl", "a b c d e f", ";;;;e! a! c!;f!", "e a c f"},
		{"h2", "a b c", ";b! b! a!;c!", "b b a c"},
		{"hh2", "a b c d", ";;c! c! a! b!;d!", "c c a b d"},
		{"ht", "a b c", ";B! a!;c!", "B a c"},
	} {
		b := newBench(t, shout, fates(x.fates)...)
		row(t, b, x.frames, x.want)
		b.wantServed(t, x.served)
		if t.Failed() {
			t.Fatal(x.fates)
		}
	}
}

// P15.2: held on the way back: likewise, behind the next answer that comes.
func TestHeldBack(t *testing.T) {
	for _, x := range []struct{ fates, frames, want string }{
		{"ph", "a b c", ";b! a!;c!"},
		{"phph", "a b c d", ";;c! a! b!;d!"},
		{"phphph", "a b c d e", ";;;d! a! b! c!;e!"},
		{"phpl", "a b c d", ";;c! a!;d!"},
		{"phplplph", "a b c d e f", ";;;;e! a! d!;f!"},
		{"php2", "a b c", ";b! b! a!;c!"},
		{"phpt", "a b c", ";B! a!;c!"},
		{"phl", "a b c d", ";;c! a!;d!"}, // b is lost there
	} {
		b := newBench(t, shout, fates(x.fates)...)
		row(t, b, x.frames, x.want)
		if t.Failed() {
			t.Fatal(x.fates)
		}
	}
}

// P15.2: what waits on one way waits for that way's frames alone.
func TestWaitingIsOfOneWay(t *testing.T) {
	// a waits there; b comes, with a behind it, but b! is held, a! comes, with b! behind it.
	b := newBench(t, shout, fates("hph")...)
	row(t, b, "a b c", ";a! b!;c!")
	b.wantServed(t, "b a c")
	// both answers are held, till that of c.
	b = newBench(t, shout, fates("hphh")...)
	row(t, b, "a b c d", ";;c! b! a!;d!")
	b.wantServed(t, "b a c d")
	// a! waits on the way back; b is held there: a! still waits, and both come with c.
	b = newBench(t, shout, fates("phh")...)
	row(t, b, "a b c d", ";;c! a! b!;d!")
	b.wantServed(t, "a c b d")
	// a waits there, while frames are lost there; b's answer is lost, a's comes.
	b = newBench(t, shout, fates("hllpl")...)
	row(t, b, "a x y b c", ";;;a!;c!")
	b.wantServed(t, "b a c")
}

// P15.2: what waited comes by no fate more: it is neither held again nor lost nor turned, and the fates go on with the next frame.
func TestWaitedComesByNoFateMore(t *testing.T) {
	b := newBench(t, shout, fates("hhhpppppt")...)
	row(t, b, "a b c d e", ";;;d! a! b! c!;E!")
	b.wantServed(t, "d a b c E")
	b.wantCounts(t, 5, 0)
	for _, behind := range "lth2" {
		// On the way back: a! and b! wait, and c! comes by the last pass: the fate behind that is d's.
		b := newBench(t, shout, fates("phphpp"+string(behind))...)
		row(t, b, "a b c", ";;c! a! b!")
		b.wantCounts(t, 3, 1)
	}
}

// P15.2: a frame's two comings stand ahead of what waits, on both ways; what waits comes behind the two, once.
func TestTwiceWhileOthersWait(t *testing.T) {
	b := newBench(t, shout, fates("hhphphpp2pppppp")...)
	b.wantAsk(t, "a", "")
	b.wantAsk(t, "b", "")
	b.wantAsk(t, "c", "a! c!") // c! is held, a! comes, b! is held
	b.wantServed(t, "c a b")
	b.wantAsk(t, "d", "d! b!")
	b.wantAsk(t, "e", "e! e!")
	b.wantCounts(t, 5, 4)
	b = newBench(t, shout, fates("h2hp2")...)
	b.wantAsk(t, "a", "")
	b.wantAsk(t, "b", "b! b! a! a!") // the first b! waits, and comes behind the second one
	b.wantServed(t, "b b a")
	b.wantAsk(t, "c", "c!")
}

// P15.2: the same text may wait several times: each of them comes.
func TestTheSameFrameWaitsTwice(t *testing.T) {
	b := newBench(t, shout, fates("hhh")...)
	row(t, b, "a a a a a", ";;;a! a! a! a!;a!")
	b.wantServed(t, "a a a a a")
}

// P15.2: what is held for ever does not come; Sent counts it.
func TestHeldForEver(t *testing.T) {
	b := newBench(t, shout, fates(strings.Repeat("h", 50))...)
	for i := range 50 {
		b.wantAsk(t, strconv.Itoa(i), "")
		b.wantCounts(t, i+1, 49-i)
	}
	b.wantServed(t, "")
}

// P15.2, P15.4: many that wait come all, in order.
func TestManyWait(t *testing.T) {
	const many = 20000
	var want []string
	b := newBench(t, shout, fates(strings.Repeat("h", many)+"lp")...)
	for i := range many {
		b.wantAsk(t, strconv.Itoa(i), "")
		want = append(want, strconv.Itoa(i)+"!")
	}
	b.wantAsk(t, "lost", "")
	wantTexts(t, "all", b.Ask("x"), append([]string{"x!"}, want...))
	b.wantAsk(t, "y", "y!")
	b.wantCounts(t, many+3, 0)
}
