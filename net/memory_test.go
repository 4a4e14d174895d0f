package net_test

import (
	"slices"
	"strings"
	"testing"
	"unsafe"

	"tussock/api"
)

// lent is a text that its owner changes afterwards all the same.
func lent(s string) (string, []byte) {
	b := []byte(s)
	return unsafe.String(unsafe.SliceData(b), len(b)), b
}

// spoil writes into a list that was handed out, and into its spare room.
func spoil(l []string) {
	l = l[:cap(l)]
	for i := range l {
		l[i] = "spoilt"
	}
}

// P15.1, R3: fates that are handed in stay as they are, their spare room too; what the caller does to them afterwards makes no difference.
func TestFatesAreTheCallers(t *testing.T) {
	room := append(fates("h2hpt"), fates("ll")...)
	before := slices.Clone(room)
	b := newBench(t, shout, room[:5]...)
	for i := range room {
		room[i] = api.Fate{Kind: 99, At: -5, By: 7}
	}
	b.wantCounts(t, 0, 5)
	copy(room, before)
	b.wantAsk(t, "a", "")
	for i := range room {
		room[i] = lose
	}
	b.wantAsk(t, "b", "b! b! A!") // the first b! is held, the second one passes, a! is turned
	b.wantAsk(t, "c", "c!")
	b.wantCounts(t, 3, 0)
	if !slices.Equal(room, slices.Repeat([]api.Fate{lose}, 7)) {
		t.Errorf("the caller's fates: %v", room)
	}
}

// R3: a net writes into no fates of the caller's, and into no spare room of theirs.
func TestFatesAreNotWrittenInto(t *testing.T) {
	room := append(fates("h2tlp"), fates("ll")...)
	before := slices.Clone(room)
	b := newBench(t, shout, room[:5]...)
	row(t, b, "a b c d", ";B! a!;c!;d!")
	if !slices.Equal(room, before) {
		t.Errorf("%v; want %v", room, before)
	}
}

// R3: lists that were handed out are the caller's, their spare room too: what waits, and what comes later, is as it was.
func TestWhatIsHandedOutIsNew(t *testing.T) {
	b := newBench(t, shout, fates("hhhpphphhpp")...)
	row(t, b, "a b c", ";;")
	one := b.Ask("d") // a! waits till b! comes; c! goes on waiting
	wantTexts(t, "one", one, []string{"d!", "b!", "a!"})
	spoil(one)
	other := b.Ask("e")
	kept := slices.Clone(other)
	spoil(b.Ask("f"))
	wantTexts(t, "the one ahead", other, kept)
	b.wantAsk(t, "g", "g!")
	wantTexts(t, "the one ahead", other, kept)
}

// R3: of the same calls the answers are the same, whatever is done to those that were handed out.
func TestSpoiltAnswersMakeNoDifference(t *testing.T) {
	l := fates(strings.Repeat("h2ph2lhp2th", 20))
	one, other := newBench(t, shout, l...), newBench(t, shout, l...)
	for i := range 200 {
		frame := string(rune('a' + i%26))
		got, want := one.Ask(frame), other.Ask(frame)
		wantTexts(t, "spoilt ahead", got, want)
		spoil(got)
	}
	wantTexts(t, "serve", one.served, other.served)
}

// R3: a frame that is handed in is not kept: one that waits is what it was, whatever becomes of the caller's memory; and so is what serve keeps, and what came back.
func TestFramesAreCopied(t *testing.T) {
	b := newBench(t, func(frame string) string { return frame }, fates("hph")...)
	held, memory := lent("held")
	wantTexts(t, "held", b.Ask(held), nil)
	copy(memory, "lost")
	now, memoryOfNow := lent("now")
	back := b.Ask(now)
	copy(memoryOfNow, "oth")
	wantTexts(t, "back", back, []string{"held", "now"})
	b.wantServed(t, "now held")
	for _, c := range "pth2" {
		b := newBench(t, func(frame string) string { return frame }, fates(string(c))...)
		frame, memory := lent("abc")
		back := append(b.Ask(frame), b.Ask("x")...)
		want := slices.Clone(back)
		for i, s := range want {
			want[i] = strings.Clone(s)
		}
		copy(memory, "???")
		wantTexts(t, "back", back, want)
	}
}

// R3: what serve answered, and changes afterwards.
func TestAnswersOfServeAreCopied(t *testing.T) {
	var memory [][]byte
	b := newBench(t, func(frame string) string {
		s, m := lent(frame + "!")
		memory = append(memory, m)
		return s
	}, fates("phpp")...)
	b.wantAsk(t, "a", "")
	copy(memory[0], "??")
	back := b.Ask("b")
	copy(memory[1], "??")
	wantTexts(t, "back", back, []string{"b!", "a!"})
	twice := newBench(t, func(frame string) string {
		s, m := lent(frame + "!")
		memory = append(memory, m)
		return s
	}, fates("2")...)
	back = twice.Ask("c")
	copy(memory[2], "??")
	copy(memory[3], "??")
	wantTexts(t, "back", back, []string{"c!", "c!"})
}
