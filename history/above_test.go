package history_test

import (
	"testing"

	"tussock/api"
	"tussock/history"
)

// P19.3: the chapter's examples, and all pairs of them.
func TestAboveExamples(t *testing.T) {
	s, a, b, c, d := diamond()
	wantAbove(t, s, d, a, true)
	wantAbove(t, s, b, c, false)
	for _, x := range []struct {
		one  string
		over []string
	}{{a, []string{a}}, {b, []string{b, a}}, {c, []string{c, a}}, {d, []string{d, c, b, a}}} {
		n := 0
		for _, y := range []string{a, b, c, d} {
			up, e := history.Above(s.get, x.one, y)
			if e != api.OK {
				t.Errorf("Above(%q, %q): %d", name(x.one), name(y), e)
			}
			if up {
				n++
			}
			wantPlainAbove(t, s, x.one, y)
		}
		for _, y := range x.over {
			wantAbove(t, s, x.one, y, true)
		}
		if n != len(x.over) {
			t.Errorf("%q is above %d; want %d", name(x.one), n, len(x.over))
		}
	}
}

// P19.3: of the same text twice nothing is read, whatever get would answer.
func TestAboveItself(t *testing.T) {
	s := newShelf()
	s.errs[id("error")] = 77
	s.has[id("wrong")] = "?"
	s.lay("right", 1, id("none"))
	for _, x := range []string{id("error"), id("wrong"), id("right"), id("none"), "", "strange"} {
		wantAbove(t, s, x, x, true)
		wantAsked(t, s)
	}
}

// P19.3: it ends as soon as b is taken: b's parents are not read, nor those of what would be taken behind it.
func TestAboveReadsNoMore(t *testing.T) {
	s, a, b, c, d := diamond()
	wantAbove(t, s, d, d, true)
	wantAsked(t, s)
	wantAbove(t, s, d, c, true)
	wantAsked(t, s, d, b, c)
	wantAbove(t, s, d, b, true) // c is taken ahead of b, and a is there by it
	wantAsked(t, s, d, b, c, a)
	wantAbove(t, s, b, a, true)
	wantAsked(t, s, b, a)
	wantAbove(t, s, b, d, false)
	wantAsked(t, s, b, a)
	delete(s.has, a)
	wantAbove(t, s, d, c, true)
	wantNoAbove(t, s, d, b, api.ErrMissing) // b is there by then, but was not taken
	wantAsked(t, s, d, b, c, a)
	wantNoAbove(t, s, b, c, api.ErrMissing)
	s.errs[a] = 77
	wantNoAbove(t, s, d, b, 77)
	wantAbove(t, s, d, c, true)
}

// P19.3: b need not be there to be asked for; what is read must be.
func TestAboveErrors(t *testing.T) {
	for _, wrong := range append(wrongBytes(), "missing", "error") {
		s, a, b, c, d := diamond()
		wantAbove(t, s, d, id("none"), false)
		wantAsked(t, s, d, b, c, a)
		wantAbove(t, s, b, "strange", false)
		want := s.spoil(c, wrong)
		wantNoAbove(t, s, c, a, want)
		wantAsked(t, s, c)
		wantNoAbove(t, s, d, a, want)
		wantNoAbove(t, s, d, c, want) // a parent that can't be read is an error, also where it is asked for
		wantAsked(t, s, d, b, c)
		wantNoAbove(t, s, d, b, want)
		wantAbove(t, s, b, c, false)
		wantAsked(t, s, b, a)
		want = s.spoil(b, wrong)
		wantNoAbove(t, s, d, c, want)
		wantAsked(t, s, d, b)
		want = s.spoil(d, wrong)
		wantNoAbove(t, s, d, a, want)
		wantNoAbove(t, s, d, id("none"), want)
		wantAsked(t, s, d)
	}
}

// P19.3: circles, and one that is its own parent.
func TestAboveCircles(t *testing.T) {
	s := newShelf()
	self := s.lay("self", 1, id("self"))
	wantAbove(t, s, self, self, true)
	wantAbove(t, s, self, id("x"), false)
	wantAsked(t, s, self)
	x := s.lay("x", 5, id("y"))
	y := s.lay("y", 3, id("z"))
	z := s.lay("z", 4, x, self)
	for _, a := range []string{x, y, z} {
		for _, b := range []string{x, y, z} {
			wantAbove(t, s, a, b, true)
		}
		wantAbove(t, s, a, self, true)
		wantAbove(t, s, self, a, false)
		wantAbove(t, s, a, id("none"), false)
	}
}

// P19.3: times that fall along the way, or are alike, hide nothing.
func TestAboveTimes(t *testing.T) {
	s := newShelf()
	old := s.lay("old", 1<<62)
	mid := s.lay("mid", 7, old)
	side := s.lay("side", 7)
	top := s.lay("top", 0, side, mid)
	wantAbove(t, s, top, old, true)
	wantAsked(t, s, top, side, mid, old)
	wantAbove(t, s, top, side, true) // the greater one of two ids
	wantAsked(t, s, top, side, mid)
	wantAbove(t, s, top, mid, true)
	wantAsked(t, s, top, side, mid)
	wantAbove(t, s, old, top, false)
	wantAbove(t, s, mid, side, false)
}
