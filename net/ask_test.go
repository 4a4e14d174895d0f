package net_test

import (
	"strconv"
	"strings"
	"testing"

	"tussock/api"
	"tussock/net"
)

// The chapter's examples.
func TestExamples(t *testing.T) {
	for _, x := range []struct {
		fates  []api.Fate
		frames string
		want   []string
	}{
		{nil, "a b", []string{"a!", "b!"}},
		{fates("l"), "a b", []string{"", "b!"}},
		{fates("pl"), "a b", []string{"", "b!"}},
		{fates("h"), "a b c", []string{"", "b! a!", "c!"}},
		{fates("ph"), "a b", []string{"", "b! a!"}},
		{fates("2"), "a", []string{"a! a!"}},
		{[]api.Fate{turn(0, 3)}, "ab", []string{"bb!"}},
	} {
		b := newBench(t, shout, x.fates...)
		for i, frame := range strings.Fields(x.frames) {
			b.wantAsk(t, frame, x.want[i])
		}
		b.wantCounts(t, len(x.want), 0)
	}
}

// P15.2, P15.3, R4: a nil net, and one that New did not give: no frame goes.
func TestNetsThatNewDidNotGive(t *testing.T) {
	for _, n := range []*net.Net{nil, {}, new(net.Net)} {
		for _, frame := range []string{"", "a", "many bytes"} {
			if l := n.Ask(frame); len(l) != 0 {
				t.Errorf("Ask: %q", l)
			}
			if n.Sent() != 0 || n.Left() != 0 {
				t.Errorf("Sent %d, Left %d", n.Sent(), n.Left())
			}
		}
	}
}

// P15.2, P15.3: an empty frame does not go: it takes no fate, is not counted, and sends nothing on that waits.
func TestEmptyFrame(t *testing.T) {
	for _, c := range "plth2" {
		b := newBench(t, shout, fates(string(c)+string(c))...)
		b.wantAsk(t, "", "")
		b.wantServed(t, "")
		b.wantCounts(t, 0, 2)
	}
	b := newBench(t, shout, fates("hpph")...)
	b.wantAsk(t, "a", "")
	b.wantAsk(t, "", "")
	b.wantCounts(t, 1, 3)
	b.wantServed(t, "")
	b.wantAsk(t, "b", "b!") // a! waits
	b.wantAsk(t, "", "")
	b.wantCounts(t, 2, 0)
	b.wantServed(t, "b a")
	b.wantAsk(t, "c", "c! a!")
	b.wantAsk(t, "", "")
	b.wantCounts(t, 3, 0)
}

// P15.2: each kind of fate there, with each kind back: what serve is called with, what comes back, and what comes with the next frame.
func TestEachKindOnEachWay(t *testing.T) {
	for _, x := range []struct{ fates, back, served, next, servedNext string }{
		{"pp", "a!", "a", "b!", "b"},
		{"pl", "", "a", "b!", "b"},
		{"pt", "A!", "a", "b!", "b"},
		{"ph", "", "a", "b! a!", "b"},
		{"p2", "a! a!", "a", "b!", "b"},
		{"lp", "", "", "b!", "b"}, // the second fate is the next frame's
		{"ll", "", "", "", ""},
		{"lt", "", "", "B!", "B"},
		{"lh", "", "", "", ""},
		{"l2", "", "", "b! b!", "b b"},
		{"tp", "A!", "A", "b!", "b"},
		{"tl", "", "A", "b!", "b"},
		{"tt", "a!", "A", "b!", "b"},
		{"th", "", "A", "b! A!", "b"},
		{"t2", "A! A!", "A", "b!", "b"},
		{"hp", "", "", "b! a!", "b a"},
		{"hl", "", "", "", ""},
		{"ht", "", "", "B! a!", "B a"},
		{"hh", "", "", "", ""},
		{"h2", "", "", "b! b! a!", "b b a"},
		{"2p", "a! a!", "a a", "b!", "b"},
		{"2l", "a!", "a a", "b!", "b"},
		{"2t", "A! a!", "a a", "b!", "b"},
		{"2h", "a! a!", "a a", "b!", "b"},
		{"22", "a! a! a!", "a a", "b!", "b"},
	} {
		b := newBench(t, shout, fates(x.fates)...)
		b.wantAsk(t, "a", x.back)
		b.wantServed(t, x.served)
		b.wantAsk(t, "b", x.next)
		b.wantServed(t, x.servedNext)
		b.wantCounts(t, 2, 0)
		if t.Failed() {
			t.Fatal(x.fates)
		}
	}
}

// P15.2: what FTwice brings there is served twice, and each answer has a fate of its own.
func TestTwiceThereWithFatesForBothAnswers(t *testing.T) {
	for _, x := range []struct{ fates, back, next string }{
		{"2pp", "a!1 a!2", "b!3"},
		{"2pl", "a!1", "b!3"},
		{"2lp", "a!2", "b!3"},
		{"2ll", "", "b!3"},
		{"2pt", "a!1 A!2", "b!3"},
		{"2tp", "A!1 a!2", "b!3"},
		{"2ph", "a!1", "b!3 a!2"},
		{"2hp", "a!2 a!1", "b!3"},
		{"2hh", "", "b!3 a!1 a!2"},
		{"2hl", "", "b!3 a!1"},
		{"2lh", "", "b!3 a!2"},
		{"2ht", "A!2 a!1", "b!3"},
		{"2th", "A!1", "b!3 a!2"},
		{"2h2", "a!2 a!2 a!1", "b!3"},
		{"22h", "a!1 a!1", "b!3 a!2"},
		{"222", "a!1 a!1 a!2 a!2", "b!3"},
		{"22l", "a!1 a!1", "b!3"},
		{"2l2", "a!2 a!2", "b!3"},
	} {
		calls := 0
		b := newBench(t, func(frame string) string {
			calls++
			return frame + "!" + strconv.Itoa(calls)
		}, fates(x.fates)...)
		b.wantAsk(t, "a", x.back)
		b.wantServed(t, "a a")
		b.wantCounts(t, 1, 0)
		b.wantAsk(t, "b", x.next)
		b.wantServed(t, "b")
		if t.Failed() {
			t.Fatal(x.fates)
		}
	}
}

// P15.2: an answer goes back ahead of the next call of serve: its fate is taken by then.
func TestAnswersGoBackBetweenCalls(t *testing.T) {
	for _, x := range []struct {
		fates, served string
		left          []int
	}{
		{"ppp", "c", []int{2}},
		{"2pp", "c c", []int{2, 1}},
		{"2lhpp", "c c", []int{4, 3}},
		{"hhpplh2", "c a b", []int{4, 3, 2}},
		{"hh2pplh2", "c c a b", []int{5, 4, 3, 2}},
		{"hh2p", "c c a b", []int{1, 0, 0, 0}},
	} {
		b := newBench(t, shout, fates(x.fates)...)
		for range strings.Count(x.fates[:2], "h") { // those that wait ahead of c
			b.wantAsk(t, string(rune('a'+b.Sent())), "")
		}
		b.Ask("c")
		b.wantServed(t, x.served)
		for i, left := range x.left {
			if i >= len(b.left) || b.left[i] != left {
				t.Errorf("%s: fates left at the calls of serve: %d; want %d", x.fates, b.left, x.left)
				break
			}
		}
	}
}

// P15.2: an empty answer does not go back: it takes no fate, and sends nothing on that waits.
func TestServeThatAnswersNothing(t *testing.T) {
	silent := map[string]bool{"q": true}
	serve := func(frame string) string {
		if silent[frame] {
			return ""
		}
		return frame + "!"
	}
	b := newBench(t, serve, fates("pl2")...)
	b.wantAsk(t, "q", "")
	b.wantCounts(t, 1, 2)
	b.wantAsk(t, "q", "") // lost
	b.wantCounts(t, 2, 1)
	b.wantAsk(t, "q", "")
	b.wantCounts(t, 3, 0)
	b.wantServed(t, "q q q")

	b = newBench(t, serve, fates("phhpp")...)
	b.wantAsk(t, "a", "") // a! waits on the way back
	b.wantAsk(t, "b", "") // b waits on the way there
	b.wantAsk(t, "q", "b! a!")
	b.wantServed(t, "a q b")
	b.wantCounts(t, 3, 0)
	b.wantAsk(t, "c", "c!")

	b = newBench(t, serve, fates("ph")...)
	b.wantAsk(t, "a", "")
	b.wantAsk(t, "q", "")
	b.wantAsk(t, "q", "")
	b.wantAsk(t, "b", "b! a!")
}

// P15.2: serve that answers the frame itself, and other texts at each call.
func TestWhatServeAnswers(t *testing.T) {
	b := newBench(t, func(frame string) string { return frame }, fates("ptt2h")...)
	b.wantAsk(t, "ab", "Ab")
	b.wantAsk(t, "ab", "Ab Ab")
	b.wantAsk(t, "ab", "")
	b.wantAsk(t, "cd", "cd ab")
	b.wantServed(t, "ab Ab cd ab")

	n := 0
	b = newBench(t, func(string) string {
		n++
		return strings.Repeat("x", n-1)
	}, fates("2")...)
	b.wantAsk(t, "a", "x")
	b.wantAsk(t, "a", "xx")
	b.wantAsk(t, "a", "xxx")
}

// P15.2: frames of all bytes, and of many.
func TestFramesOfAnyBytes(t *testing.T) {
	var all []byte
	for c := range 256 {
		all = append(all, byte(c))
	}
	for _, frame := range []string{"\x00", "\xff", " ", "\n", string(all), strings.Repeat(string(all), 4096)} {
		for _, answer := range []string{frame, frame + frame, "\x00"} {
			b := newBench(t, func(string) string { return answer }, fates("2lhp2")...)
			wantTexts(t, "lost, held", b.Ask(frame), nil)
			wantTexts(t, "twice", b.Ask(frame), []string{answer, answer, answer})
			wantTexts(t, "once", b.Ask(frame), []string{answer})
			wantTexts(t, "serve", b.served, []string{frame, frame, frame, frame})
		}
	}
}

// P15.2, P15.3: more fates than frames: those that are left stay; more frames than fates: those behind pass.
func TestMoreOfOneThanOfTheOther(t *testing.T) {
	b := newBench(t, shout, fates(strings.Repeat("pt", 50))...)
	for i := range 3 {
		b.wantAsk(t, "a", "A!")
		b.wantCounts(t, i+1, 98-2*i)
	}
	b = newBench(t, shout, fates("pl")...)
	b.wantAsk(t, "a", "")
	for i := range 1000 {
		b.wantAsk(t, "b", "b!")
		b.wantCounts(t, i+2, 0)
	}
	b = newBench(t, shout, lose)
	b.wantAsk(t, "a", "")
	b.wantAsk(t, "a", "a!")
}

// P15.3: the last fates can end in the midst of an Ask: what goes behind them passes.
func TestFatesThatEndWithinAnAsk(t *testing.T) {
	b := newBench(t, shout, fates("hh2l")...)
	b.wantAsk(t, "a", "")
	b.wantAsk(t, "b", "")
	b.wantAsk(t, "c", "c! a! b!") // the first answer alone is lost
	b.wantServed(t, "c c a b")
	b.wantCounts(t, 3, 0)
}

// P15.2, R1: a serve that asks on the same net: each frame comes to who asked last, once, and the counts go on.
func TestServeThatAsks(t *testing.T) {
	var b *bench
	var within []string
	b = newBench(t, func(frame string) string {
		if frame == "c" {
			within = append(within, b.Ask("d")...)
		}
		return frame + "!"
	}, fates("hh")...)
	b.wantAsk(t, "a", "")
	b.wantAsk(t, "b", "")
	b.wantAsk(t, "c", "c! a! b!")
	wantTexts(t, "within", within, []string{"d!"})
	b.wantServed(t, "c d a b")
	b.wantCounts(t, 4, 0)
	b.wantAsk(t, "e", "e!")
}
