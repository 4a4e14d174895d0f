package history_test

import (
	"slices"
	"testing"

	"tussock/api"
	"tussock/history"
)

// over are all pairs of which the one is above the other one; a pair that meets an error is not there.
func over(t *testing.T, s *shelf, ids []string) map[[2]string]bool {
	t.Helper()
	out := map[[2]string]bool{}
	for _, a := range ids {
		for _, b := range ids {
			up, e := history.Above(s.get, a, b)
			if e != api.OK {
				t.Errorf("Above(%q, %q): %d", name(a), name(b), e)
			}
			if up {
				out[[2]string{a, b}] = true
			}
		}
	}
	return out
}

func lettersTo(n int) []string {
	var ids []string
	for i := range n {
		ids = append(ids, letter(i))
	}
	return ids
}

// P19.5: if times rise along the way, a log has each commit ahead of all to which it goes back.
func TestLogGoesDown(t *testing.T) {
	for seed := range int64(150) {
		r := newDraw(seed)
		s := r.rising(14)
		ids := lettersTo(14)
		above := over(t, s, ids)
		l, e := history.Log(s.get, 99, r.letters(14, 6)...)
		if e != api.OK {
			t.Fatalf("the seed %d: %d", seed, e)
		}
		for i, a := range l {
			for _, b := range l[:i] {
				if above[[2]string{a, b}] {
					t.Errorf("the seed %d: %s has %q behind %q", seed, told(l), name(a), name(b))
				}
			}
		}
	}
}

// P19.5: what is above something that is above a third one is above that, in circles, too.
func TestAboveGoesOn(t *testing.T) {
	for seed := range int64(150) {
		r := newDraw(seed)
		for _, s := range []*shelf{r.wild(7), r.falling(9)} {
			above := over(t, s, lettersTo(len(s.has)))
			for x := range above {
				for y := range above {
					if x[1] == y[0] && !above[[2]string{x[0], y[1]}] {
						t.Errorf("the seed %d: %q is above %q, that above %q", seed, name(x[0]), name(x[1]), name(y[1]))
					}
				}
			}
		}
	}
}

// P19.5: the base of two is the same the other way round, also in circles.
func TestBaseIsTheSameBackward(t *testing.T) {
	for seed := range int64(150) {
		r := newDraw(seed)
		for _, s := range []*shelf{r.wild(8), r.falling(10)} {
			for _, a := range lettersTo(len(s.has)) {
				for _, b := range lettersTo(len(s.has)) {
					x, e := history.Base(s.get, a, b)
					y, e2 := history.Base(s.get, b, a)
					if x != y || e != api.OK || e2 != api.OK {
						t.Errorf("the seed %d: the base of %q and %q: %q, %d; backward %q, %d", seed, name(a), name(b), name(x), e, name(y), e2)
					}
				}
			}
		}
	}
}

// P19.5: of one that is above another one the base is that other one; it is above by way of itself alone.
func TestBaseOfOneAbove(t *testing.T) {
	found := 0
	for seed := range int64(150) {
		r := newDraw(seed)
		s := r.falling(10)
		for x := range over(t, s, lettersTo(10)) {
			found++
			if got, e := history.Base(s.get, x[0], x[1]); got != x[1] || e != api.OK {
				t.Errorf("the seed %d: the base of %q and %q, which is below it: %q, %d", seed, name(x[0]), name(x[1]), name(got), e)
			}
		}
	}
	if found < 1000 {
		t.Errorf("only %d are above others: the draws say too little", found)
	}
}

// P19.5, P19.3, P19.4: what the calls say of each other: a log has what its first one is above, the base is below both.
func TestCallsAgree(t *testing.T) {
	for seed := range int64(150) {
		r := newDraw(seed)
		s := r.wild(8)
		ids := lettersTo(8)
		above := over(t, s, ids)
		for _, a := range ids {
			l, _ := history.Log(s.get, 99, a)
			for _, b := range ids {
				if slices.Contains(l, b) != above[[2]string{a, b}] {
					t.Errorf("the seed %d: the log of %q: %s; above %q: %v", seed, name(a), told(l), name(b), above[[2]string{a, b}])
				}
				x, _ := history.Base(s.get, a, b)
				if x != "" && (!above[[2]string{a, x}] || !above[[2]string{b, x}]) {
					t.Errorf("the seed %d: the base of %q and %q is %q, which is not below both", seed, name(a), name(b), name(x))
				}
			}
		}
	}
}
