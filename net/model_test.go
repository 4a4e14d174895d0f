package net_test

import (
	"math"
	"math/rand"
	"slices"
	"testing"

	"tussock/api"
)

// both is a net and its model, which get the same calls and must answer alike.
type both struct {
	*bench
	model       plain
	modelServed []string
}

// newBoth makes serve twice, as it may answer otherwise at each call.
func newBoth(t testing.TB, newServe func() func(frame string) string, fates ...api.Fate) *both {
	t.Helper()
	b := &both{bench: newBench(t, newServe(), fates...)}
	serve := newServe()
	b.model = plain{fates: slices.Clone(fates), serve: func(frame string) string {
		b.modelServed = append(b.modelServed, frame)
		return serve(frame)
	}}
	return b
}

func (b *both) ask(t testing.TB, frame string) {
	t.Helper()
	want := b.model.ask(frame)
	wantTexts(t, "Ask", b.Ask(frame), want)
	wantTexts(t, "serve", b.served, b.modelServed)
	b.wantCounts(t, b.model.sent, b.model.left())
}

// draw says what drawn nets are made of.
type draw struct{ *rand.Rand }

func (r draw) text(most int) string {
	b := make([]byte, r.Intn(most+1))
	r.Read(b)
	return string(b)
}

func (r draw) at() int {
	switch r.Intn(6) {
	case 0:
		return math.MinInt + r.Intn(10)
	case 1:
		return math.MaxInt - r.Intn(10)
	case 2:
		return int(r.Uint64())
	}
	return r.Intn(21) - 10
}

func (r draw) fates() []api.Fate {
	kinds := [][]int{{0, 1, 2, 3, 4}, {0, 0, 0, 3}, {3, 4}, {2, 3}, {1, 3, 3, 3}, {0, 4}}[r.Intn(6)]
	var out []api.Fate
	for range r.Intn(40) {
		out = append(out, api.Fate{Kind: kinds[r.Intn(len(kinds))], At: r.at(), By: byte(r.Intn(256))})
	}
	return out
}

// serve makes who serves: the same each time, though its answers are others at each call.
func (r draw) serve() func() func(frame string) string {
	seed, quiet := r.Int63(), 1+r.Intn(5)
	return func() func(frame string) string {
		r := draw{rand.New(rand.NewSource(seed))}
		return func(frame string) string {
			switch {
			case r.Intn(quiet+1) == 0:
				return ""
			case r.Intn(3) == 0:
				return frame
			case r.Intn(2) == 0:
				return frame + "!"
			}
			return r.text(8)
		}
	}
}

// P15.1 to P15.3: drawn fates, frames and answers, against the plain reckoning.
func TestAsTheModel(t *testing.T) {
	for seed := range int64(5000) {
		r := draw{rand.New(rand.NewSource(seed))}
		b := newBoth(t, r.serve(), r.fates()...)
		for range r.Intn(40) {
			b.ask(t, r.text(6))
		}
		b.wantFollows(t)
		if t.Failed() {
			t.Fatalf("the seed %d", seed)
		}
	}
}

// wantFollows asks P15.4 of what went and what came: no more than each frame twice, and none but such as went, or turned ones.
func (b *both) wantFollows(t testing.TB) {
	t.Helper()
	went, came, turns := map[going]int{}, map[going]int{}, 0
	for _, g := range b.model.went {
		went[g]++
	}
	for _, f := range b.model.fates[:b.model.taken] {
		if f.Kind == api.FTurn {
			turns++
		}
	}
	for _, g := range b.model.came {
		came[g]++
	}
	for g, n := range came {
		turns -= max(n-2*went[g], 0)
	}
	if turns < 0 {
		t.Errorf("%d frames came that did not go", -turns)
	}
}

// R4: several nets, used in turns, each as its own model.
func TestSeveralAsTheirModels(t *testing.T) {
	r := draw{rand.New(rand.NewSource(15))}
	var all []*both
	for range 20 {
		all = append(all, newBoth(t, r.serve(), r.fates()...))
	}
	for range 2000 {
		all[r.Intn(len(all))].ask(t, r.text(6))
	}
}

// every is all texts of n letters.
func every(letters string, n int) []string {
	if n == 0 {
		return []string{""}
	}
	var out []string
	for _, s := range every(letters, n-1) {
		for _, c := range letters {
			out = append(out, s+string(c))
		}
	}
	return out
}

// P15.2: all rows of six fates, of all kinds.
func TestEveryRowOfFates(t *testing.T) {
	newShout := func() func(string) string { return shout }
	for _, letters := range every("plth2", 6) {
		b := newBoth(t, newShout, fates(letters)...)
		for _, frame := range []string{"a", "b", "c", "d", "e", "f", "g", "h"} {
			b.ask(t, frame)
		}
		if t.Failed() {
			t.Fatal(letters)
		}
	}
}

// FuzzAsTheModel reads fates off the bytes, three each: a kind, an At, a By; frames have as many bytes as the numbers say, and serve is silent at each call of a number that can be divided by quiet.
func FuzzAsTheModel(f *testing.F) {
	f.Add([]byte("300000310000421220"), []byte{1, 1, 0, 2, 3}, 0, 3)
	f.Add([]byte{3, 0, 0, 0, 0, 0, 3, 0, 0, 2, 255, 255, 4, 0, 0}, []byte{5, 5, 5, 5}, math.MinInt, 2)
	f.Add([]byte{}, []byte{}, 0, 0)
	f.Fuzz(func(t *testing.T, script, frames []byte, from, quiet int) {
		var l []api.Fate
		for ; len(script) >= 3; script = script[3:] {
			l = append(l, api.Fate{Kind: int(script[0]) % 5, At: from + int(script[1]), By: script[2]})
		}
		b := newBoth(t, func() func(string) string {
			calls := 0
			return func(frame string) string {
				calls++
				if quiet != 0 && calls%quiet == 0 {
					return ""
				}
				return frame + string(rune('0'+calls%10))
			}
		}, l...)
		for i, n := range frames {
			frame := make([]byte, n%8)
			for k := range frame {
				frame[k] = byte(i + k)
			}
			b.ask(t, string(frame))
		}
		b.wantFollows(t)
	})
}
