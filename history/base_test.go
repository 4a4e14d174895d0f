package history_test

import (
	"testing"

	"tussock/api"
)

// P19.4: the chapter's examples, and one and itself.
func TestBaseExamples(t *testing.T) {
	s, a, b, c, d := diamond()
	wantBase(t, s, b, c, a)
	wantAsked(t, s, b, a, c, a)
	wantBase(t, s, d, b, b)
	wantAsked(t, s, d, b, c, a, b, a)
	wantBase(t, s, b, d, b)
	wantAsked(t, s, b, a, d, b, c, a)
	wantBase(t, s, d, a, a)
	wantBase(t, s, a, c, a)
	for _, x := range []string{a, b, c, d} {
		wantBase(t, s, x, x, x)
	}
	wantBase(t, s, a, a, a)
	wantAsked(t, s, a, a)
}

// P19.4: two that have none in common.
func TestBaseOfNone(t *testing.T) {
	s, a, _, _, d := diamond()
	x := s.lay("x", 1)
	y := s.lay("y", 9, x)
	wantBase(t, s, d, y, "")
	wantBase(t, s, y, a, "")
	wantBase(t, s, x, a, "")
	wantBase(t, s, s.lay("z", 3, x, a), d, a)
	wantBase(t, s, id("z"), y, x)
}

// P19.4: crossed parents: of two that are as good, the later one, by time and by id.
func TestBaseCrossed(t *testing.T) {
	s := newShelf()
	root := s.lay("root", 1)
	p := s.lay("p", 2, root)
	q := s.lay("q", 3, root)
	x := s.lay("x", 4, p, q)
	y := s.lay("y", 5, q, p)
	wantBase(t, s, x, y, q)
	wantBase(t, s, y, x, q)
	s.lay("p", 3, root)
	wantBase(t, s, x, y, q)
	s.lay("p", 4, root)
	wantBase(t, s, x, y, p)
	for _, one := range []byte{0, 1, 0x7F, 0xFE} { // by the last byte alone
		m, n := idEnd(one), idEnd(one+1)
		s.has[m], s.has[n] = commitOf(2, root), commitOf(2, root)
		wantBase(t, s, s.lay("v", 4, n, m), s.lay("w", 3, m, n), n)
	}
}

// P19.4: none to which another one in common goes back, however late it is, and by however many ways.
func TestBaseIsTheTop(t *testing.T) {
	s := newShelf()
	low := s.lay("low", 90)
	mid := s.lay("mid", 80, low)
	between := s.lay("between", 95, low)
	top := s.lay("top", 5, mid, between)
	x := s.lay("x", 100, top, low)
	y := s.lay("y", 3, between, top, mid)
	wantBase(t, s, x, y, top)
	wantBase(t, s, y, x, top)
	wantBase(t, s, s.lay("v", 1, low, between), y, between)
	wantBase(t, s, s.lay("v", 1, mid, between), x, between)
	other := s.lay("other", 4)
	wantBase(t, s, s.lay("v", 1, top, other), s.lay("w", 1, other, top), top)
	s.lay("other", 6)
	wantBase(t, s, id("v"), id("w"), other)
}

// P19.4: circles: where each goes back to another one there is none; its own parent is not another one.
func TestBaseCircles(t *testing.T) {
	s := newShelf()
	self := s.lay("self", 1, id("self"))
	wantBase(t, s, self, self, self)
	x := s.lay("x", 2, self)
	wantBase(t, s, x, self, self)
	y := s.lay("y", 2, id("z"))
	z := s.lay("z", 3, y)
	wantBase(t, s, y, y, "")
	wantBase(t, s, y, z, "")
	wantBase(t, s, z, y, "")
	wantBase(t, s, s.lay("u", 9, y), s.lay("v", 9, z), "")
	wantBase(t, s, s.lay("u", 9, y, x), s.lay("v", 9, z, x), x) // x is in no circle
	wantBase(t, s, s.lay("u", 9, y, self), s.lay("v", 9, z, self), self)
	p := s.lay("p", 4, id("r"), x)
	q := s.lay("q", 5, p)
	r := s.lay("r", 6, q)
	for _, one := range []string{p, q, r} {
		for _, other := range []string{p, q, r} {
			wantBase(t, s, one, other, "") // x is below them
		}
		wantBase(t, s, one, x, x)
		wantBase(t, s, x, one, x)
		wantBase(t, s, one, y, "")
	}
	top := s.lay("top", 7, q)
	wantBase(t, s, top, top, top)
	wantBase(t, s, top, q, "")
}

// P19.4: both walks are whole, that from a first: its error is told.
func TestBaseErrors(t *testing.T) {
	for _, wrong := range append(wrongBytes(), "missing", "error") {
		s, a, b, c, d := diamond()
		want := s.spoil(a, wrong)
		wantNoBase(t, s, b, c, want)
		wantAsked(t, s, b, a)
		wantNoBase(t, s, a, a, want)
		wantAsked(t, s, a)
		wantNoBase(t, s, d, d, want)
		x := s.lay("x", 7)
		wantNoBase(t, s, x, d, want) // the second walk's error, though none would be in common
		wantAsked(t, s, x, d, b, c, a)
		wantNoBase(t, s, d, x, want)
		wantAsked(t, s, d, b, c, a)
		s.lay("a", 1)
		want = s.spoil(b, wrong)
		wantBase(t, s, c, a, a)
		wantNoBase(t, s, c, d, want)
		wantAsked(t, s, c, a, d, b)
		wantNoBase(t, s, c, b, want)
		wantAsked(t, s, c, a, b)
	}
}

// P19.4: of two errors that of the walk from a.
func TestBaseFirstError(t *testing.T) {
	s := newShelf()
	bad := s.lay("bad", 1)
	s.has[bad] = "?"
	s.errs[id("error")] = 77
	x := s.lay("x", 1, bad)
	y := s.lay("y", 1, id("error"))
	wantNoBase(t, s, x, y, api.ErrObjectByte)
	wantAsked(t, s, x, bad)
	wantNoBase(t, s, y, x, 77)
	wantAsked(t, s, y, id("error"))
	wantNoBase(t, s, id("none"), x, api.ErrMissing)
	wantAsked(t, s, id("none"))
	wantNoBase(t, s, x, id("none"), api.ErrObjectByte)
	z := s.lay("z", 1, id("none"), bad)
	wantNoBase(t, s, z, x, api.ErrMissing)
	wantNoBase(t, s, s.lay("v", 1), z, api.ErrMissing)
}
