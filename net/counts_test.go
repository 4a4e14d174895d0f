package net_test

import (
	"testing"

	"tussock/net"
)

// P15.3: Sent and Left behind each call: a frame that goes is one, whatever becomes of it; each way takes a fate for each frame that goes on it.
func TestSentAndLeftBehindEachCall(t *testing.T) {
	b := newBench(t, func(frame string) string {
		if frame == "q" {
			return ""
		}
		return frame + "!"
	}, fates("pp"+"l"+"pl"+"2hh"+"h"+"tpt"+"p")...)
	b.wantCounts(t, 0, 13)
	for i, x := range []struct {
		frame, want string
		left        int
	}{
		{"a", "a!", 11}, // there and back
		{"b", "", 10},   // lost there
		{"c", "", 8},    // lost back
		{"d", "", 5},    // there once, back twice
		{"e", "", 4},    // held there
		{"f", "F! d! d! E!", 1},
		{"q", "", 0}, // served, and nothing goes back
		{"g", "g!", 0},
		{"q", "", 0},
	} {
		b.wantAsk(t, x.frame, x.want)
		b.wantCounts(t, i+1, x.left)
		b.wantAsk(t, "", "")
		b.wantCounts(t, i+1, x.left)
	}
}

// P15.3: asking for the counts changes nothing.
func TestCountsAreAskedForOften(t *testing.T) {
	b := newBench(t, shout, fates("hpph")...)
	row(t, b, "a b", ";b!")
	for range 100 {
		b.wantCounts(t, 2, 0)
	}
	b.wantAsk(t, "c", "c! a!")
}

// P15.3: at a call of serve the frame that it is called with went there, and took its fate.
func TestCountsWithinServe(t *testing.T) {
	var n *net.Net
	var sent, left []int
	n, _ = net.New(func(frame string) string {
		sent, left = append(sent, n.Sent()), append(left, n.Left())
		return frame
	}, fates("hpplp2pp")...)
	for _, frame := range []string{"a", "b", "c", "d"} {
		n.Ask(frame)
	}
	for i, want := range [][2]int{{2, 6}, {2, 5}, {3, 3}, {4, 1}} { // b, a, c, d
		if sent[i] != want[0] || left[i] != want[1] {
			t.Errorf("at the call %d: Sent %d, Left %d; want %d", i, sent[i], left[i], want)
		}
	}
	if len(sent) != 4 {
		t.Errorf("%d calls of serve", len(sent))
	}
}
