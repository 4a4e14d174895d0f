package net_test

import (
	"fmt"
	"math/rand"
	"strconv"
	"testing"

	"tussock/api"
)

// numbered is a text that says its number three times, so that one turned byte does not hide it.
func numbered(n int) string { return fmt.Sprintf("%05d%05d%05d", n, n, n) }

// numberOf is the number of a text that was numbered, and at one place turned at most; -1, if it was none.
func numberOf(s string) int {
	if len(s) != 15 {
		return -1
	}
	for n := range 3 {
		a, b := s[n*5:n*5+5], s[(n+1)%3*5:(n+1)%3*5+5]
		if got, e := strconv.Atoi(a); e == nil && a == b {
			return got
		}
	}
	return -1
}

// looker looks on at one way: what went there, and how often it came.
type looker struct {
	went, came, changed int
	times               map[int]int
}

// wantCame asks that what comes went, and comes at most twice.
func (l *looker) wantCame(t *testing.T, s string) {
	t.Helper()
	n := numberOf(s)
	if n < 0 || n >= l.went {
		t.Errorf("%q comes, and did not go", s)
		return
	}
	l.times[n]++
	l.came++
	if l.times[n] > 2 {
		t.Errorf("%q comes for the time %d", s, l.times[n])
	}
	if s != numbered(n) {
		l.changed++
	}
}

// drawnLetters are fates, more or less of them passes.
func drawnLetters(r *rand.Rand, n int) string {
	kinds := []string{"plth2", "ph", "h2", "pppppppplth2", "hhhhhl2", "ht2", "l"}[r.Intn(7)]
	b := make([]byte, n)
	for i := range b {
		b[i] = kinds[r.Intn(len(kinds))]
	}
	return string(b)
}

// P15.4: a frame comes at most twice, and none comes that did not go, but turned ones: one for each FTurn at most.
func TestWhatComesWent(t *testing.T) {
	for seed := range int64(300) {
		r := rand.New(rand.NewSource(seed))
		l := fates(drawnLetters(r, r.Intn(60)))
		turns := 0
		for i := range l {
			if l[i].Kind == api.FTurn {
				turns++
				l[i].At, l[i].By = r.Int()-r.Int(), byte(1+r.Intn(255))
			}
		}
		there, back := &looker{times: map[int]int{}}, &looker{times: map[int]int{}}
		b := newBench(t, func(frame string) string {
			there.wantCame(t, frame)
			back.went++
			return numbered(back.went - 1)
		}, l...)
		for range 100 {
			there.went++
			for _, s := range b.Ask(numbered(there.went - 1)) {
				back.wantCame(t, s)
			}
		}
		if back.went != there.came || there.changed+back.changed > turns {
			t.Errorf("%d came there, %d went back; %d are turned, by %d fates", there.came, back.went, there.changed+back.changed, turns)
		}
		if t.Failed() {
			t.Fatalf("the seed %d", seed)
		}
	}
}

// P15.4: of fates that neither lose nor hold every frame comes with its own Ask.
func TestWithoutLosingEveryFrameComes(t *testing.T) {
	for seed := range int64(100) {
		r := rand.New(rand.NewSource(seed))
		var l []api.Fate
		for range r.Intn(50) {
			l = append(l, []api.Fate{pass, twice}[r.Intn(2)])
		}
		b := newBench(t, shout, l...)
		for i := range 50 {
			frame := strconv.Itoa(i)
			back := b.Ask(frame)
			if len(back) < 1 || len(back) > 4 {
				t.Errorf("%q", back)
			}
			for _, s := range back {
				if s != frame+"!" {
					t.Errorf("%q comes back of %q", s, frame)
				}
			}
		}
	}
}

// P15.4: with no fates left, and nothing waiting, Ask answers just what serve answers, whatever was ahead.
func TestWithNoFatesLeft(t *testing.T) {
	for seed := range int64(300) {
		r := rand.New(rand.NewSource(seed))
		b := newBench(t, shout, fates(drawnLetters(r, r.Intn(40)))...)
		for b.Left() > 0 {
			b.Ask("x")
		}
		b.Ask("y") // it comes, and its answer, too: what waited is gone by that
		b.served = nil
		for i := range 20 {
			frame := strconv.Itoa(i)
			b.wantAsk(t, frame, frame+"!")
			b.wantServed(t, frame)
		}
		if t.Failed() {
			t.Fatalf("the seed %d", seed)
		}
	}
}

// P15.4: an answer of nothing is just that, too.
func TestWithNoFatesLeftAndNoAnswer(t *testing.T) {
	b := newBench(t, func(string) string { return "" })
	for i := range 10 {
		b.wantAsk(t, "a", "")
		b.wantCounts(t, i+1, 0)
	}
	b.wantServed(t, "a a a a a a a a a a")
}

// P15.4: as many frames can go as one likes, with as many fates.
func TestManyFramesAndFates(t *testing.T) {
	const many = 300000
	n := 0
	l := make([]api.Fate, many)
	for i := range l {
		l[i] = []api.Fate{pass, pass, lose}[i%3]
	}
	b := newBench(t, func(frame string) string {
		n++
		return frame
	}, l...)
	for range many {
		b.Ask("a")
		b.served, b.left = nil, nil
	}
	b.wantCounts(t, many, 0)
	if n != many-many/3 { // of three fates the first two are one frame's
		t.Errorf("%d calls of serve", n)
	}
	for range 10 {
		b.wantAsk(t, "b", "b")
	}
}
