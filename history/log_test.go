package history_test

import (
	"math"
	"slices"
	"testing"

	"tussock/api"
	"tussock/history"
)

// P19.2: the chapter's examples.
func TestLogExamples(t *testing.T) {
	s, a, b, c, d := diamond()
	wantLog(t, s, 9, []string{d}, d, c, b, a)
	wantLog(t, s, 2, []string{d}, d, c)
	wantNoLog(t, s, 9, api.ErrMissing, id("none"))
	wantNoLog(t, s, -1, api.ErrArg, d)
}

// P19.2: most below 0, 0, 1, as many as there are, more; what is read until then.
func TestLogMost(t *testing.T) {
	s, a, b, c, d := diamond()
	for _, most := range []int{-1, -2, math.MinInt} {
		for _, from := range [][]string{nil, {d}, {id("none")}} {
			wantNoLog(t, s, most, api.ErrArg, from...)
			wantAsked(t, s)
		}
	}
	all, asked := []string{d, c, b, a}, []string{d, b, c, a}
	for most, n := range []int{0, 1, 3, 4, 4, 4} {
		wantLog(t, s, most, []string{d}, all[:min(most, 4)]...)
		wantAsked(t, s, asked[:n]...)
	}
	wantLog(t, s, math.MaxInt, []string{d}, all...)
	wantAsked(t, s, asked...)
}

// P19.2: of most 0 nothing is read, wherever it should begin.
func TestLogOfNone(t *testing.T) {
	s := newShelf()
	s.errs[id("e")] = 77
	for _, from := range [][]string{nil, {id("none")}, {id("e"), id("none")}, s.roots(5000)} {
		wantLog(t, s, 0, from)
		wantAsked(t, s)
	}
}

// P19.2: from with none, one, one twice, several, of which one goes back to another.
func TestLogFrom(t *testing.T) {
	s, a, b, c, d := diamond()
	wantLog(t, s, 9, nil)
	wantAsked(t, s)
	wantLog(t, s, 9, []string{a}, a)
	wantLog(t, s, 9, []string{a, a, a}, a)
	wantAsked(t, s, a)
	wantLog(t, s, 9, []string{b, c}, c, b, a)
	wantAsked(t, s, b, c, a)
	wantLog(t, s, 9, []string{c, b}, c, b, a)
	wantAsked(t, s, c, b, a)
	wantLog(t, s, 9, []string{a, d, b, a}, d, c, b, a)
	wantAsked(t, s, a, d, b, c)
	wantLog(t, s, 1, []string{a, d, b}, d)
	wantAsked(t, s, a, d, b)
	wantLog(t, s, 2, []string{a, d, b}, d, c)
	wantAsked(t, s, a, d, b, c)
	wantLog(t, s, 1, []string{a, b, c}, c)
	wantLog(t, s, 1, []string{a, b}, b)
}

// P19.2: the latest one is taken, whichever way it came: what comes late may be taken early.
func TestLogByTime(t *testing.T) {
	s := newShelf()
	late := s.lay("late", 100)
	mid := s.lay("mid", 50, late) // times fall along the way
	low := s.lay("low", 10, mid)
	other := s.lay("other", 60)
	wantLog(t, s, 9, []string{low, other}, other, low, mid, late)
	wantLog(t, s, 9, []string{mid, other}, other, mid, late)
	top := s.lay("top", 55, low, other)
	wantLog(t, s, 9, []string{top}, top, other, low, mid, late)
	wantLog(t, s, 9, []string{low, mid}, mid, late, low)
	wantLog(t, s, 2, []string{low, mid}, mid, late)
}

// P19.2: the least and the greatest times there are; of one beyond these the bytes are no commit's.
func TestLogTimes(t *testing.T) {
	s := newShelf()
	least := s.lay("least", 0)
	most := s.lay("most", 1<<62, least)
	low := s.lay("low", 1, most)
	under := s.lay("under", 1<<62-1)
	wantLog(t, s, 9, []string{low, under, least}, under, low, most, least)
	for _, time := range []int64{-1, math.MinInt64, 1<<62 + 1, math.MaxInt64} {
		s.has[id("x")] = rawCommit(time)
		wantNoLog(t, s, 1, api.ErrObjectByte, id("x"))
		wantNoLog(t, s, 1, api.ErrObjectByte, low, id("x"))
		child := s.lay("child", 5, id("x"))
		wantLog(t, s, 1, []string{child}, child)
		wantNoLog(t, s, 2, api.ErrObjectByte, child)
	}
	for _, time := range []int64{0, 1 << 62} {
		s.has[id("x")] = rawCommit(time)
		wantLog(t, s, 1, []string{id("x")}, id("x"))
	}
}

// P19.2: of one time the greater id is the later one, by its last byte, too, and byte by byte.
func TestLogAlikeTimes(t *testing.T) {
	s := newShelf()
	var from, want []string
	for c := range 256 {
		x := idEnd(byte(c * 7)) // each once, in no order
		s.has[x] = commitOf(5)
		from = append(from, x)
		want = append(want, idEnd(byte(255-c)))
	}
	wantLog(t, s, 1000, from, want...)
	wantLog(t, s, 1000, backward(from), want...)
	wantLog(t, s, 3, from, idEnd(255), idEnd(254), idEnd(253))
	s.has[idEnd(0)] = commitOf(6)
	wantLog(t, s, 2, from, idEnd(0), idEnd(255))
	top := s.lay("top", 5, idEnd(0x7F), idEnd(0x80), idEnd(1))
	wantLog(t, s, 9, []string{top}, top, idEnd(0x80), idEnd(0x7F), idEnd(1))
}

// P19.2: no parent, one, eight, and those that several have.
func TestLogParents(t *testing.T) {
	s := newShelf()
	base := s.lay("base", 1)
	var eight []string
	for i := range 8 {
		x := idEnd(byte(i))
		s.has[x] = commitOf(int64(10+i*3%8), base)
		eight = append(eight, x)
	}
	top := s.lay("top", 50, eight...)
	var want []string
	for _, i := range []int{5, 2, 7, 4, 1, 6, 3, 0} {
		want = append(want, eight[i])
	}
	wantLog(t, s, 100, []string{top}, slices.Concat([]string{top}, want, []string{base})...)
	wantAsked(t, s, slices.Concat([]string{top}, eight, []string{base})...)
	wantLog(t, s, 100, []string{base}, base)
}

// P19.2: the same parent twice is in no commit; nor are nine, nor ids of other lengths.
func TestLogWrongParents(t *testing.T) {
	s := newShelf()
	a := s.lay("a", 1)
	for _, b := range []string{rawCommit(2, a, a), rawCommit(2, a[:31]), rawCommit(2, a+".")} {
		s.has[id("x")] = b
		wantNoLog(t, s, 1, api.ErrObjectByte, id("x"))
		wantNoAbove(t, s, id("x"), a, api.ErrObjectByte)
	}
}

// P19.2: who is his own parent, and circles: each is taken once.
func TestLogCircles(t *testing.T) {
	s := newShelf()
	self := s.lay("self", 1, id("self"))
	wantLog(t, s, 9, []string{self}, self)
	wantAsked(t, s, self)
	x := s.lay("x", 1, id("y"))
	y := s.lay("y", 1, x)
	wantLog(t, s, 9, []string{x}, x, y)
	wantLog(t, s, 9, []string{y}, y, x)
	wantLog(t, s, 9, []string{x, y, x}, y, x)
	p := s.lay("p", 3, id("r"), id("p"))
	q := s.lay("q", 2, p, x)
	r := s.lay("r", 1, q, self)
	wantLog(t, s, 99, []string{p}, p, r, q, x, y, self)
	wantAsked(t, s, p, r, q, self, x, y)
	wantAll(t, s, p, q, r, x, y, self)
}

// P19.2: what is not there, has an error, or is no commit: as the first one, as a parent, and as one to which a log of fewer does not come.
func TestLogErrors(t *testing.T) {
	for _, wrong := range append(wrongBytes(), "missing", "error") {
		s, a, b, c, d := diamond()
		want := s.spoil(a, wrong)
		wantNoLog(t, s, 1, want, a)
		wantAsked(t, s, a)
		wantNoLog(t, s, 1, want, d, a, b)
		wantAsked(t, s, d, a)
		wantLog(t, s, 1, []string{c}, c)
		wantAsked(t, s, c)
		wantNoLog(t, s, 2, want, c)
		wantAsked(t, s, c, a)
		wantLog(t, s, 2, []string{d}, d, c)
		wantAsked(t, s, d, b, c)
		wantNoLog(t, s, 3, want, d)
		wantNoLog(t, s, 9, want, b, c)
	}
}

// spoil makes of one that is there one that can't be read: the error that tells it.
func (s *shelf) spoil(id, wrong string) api.Errno {
	switch wrong {
	case "missing":
		delete(s.has, id)
		return api.ErrMissing
	case "error":
		s.errs[id] = 77
		return 77
	}
	s.has[id] = wrong
	return api.ErrObjectByte
}

// P19.2: the first of two errors is told, and nothing is read behind it.
func TestLogFirstError(t *testing.T) {
	s, a, b, c, d := diamond()
	s.errs[b], s.errs[c] = 71, 72
	wantNoLog(t, s, 9, 71, d)
	wantAsked(t, s, d, b)
	wantNoLog(t, s, 9, 72, c, b)
	wantAsked(t, s, c)
	wantNoLog(t, s, 9, 71, a, b, c, d)
	wantAsked(t, s, a, b)
	s.errs[c] = api.OK
	wantNoLog(t, s, 9, 71, c, d)
	wantAsked(t, s, c, d, b)
	wantLog(t, s, 1, []string{c}, c)

	// The later one's parents are read ahead of the other one's, however they came.
	s = newShelf()
	x := s.lay("x", 1, id("no"))
	y := s.lay("y", 2, id("bad"))
	s.has[id("bad")] = "?"
	wantNoLog(t, s, 9, api.ErrObjectByte, x, y)
	wantAsked(t, s, x, y, id("bad"))
	wantLog(t, s, 1, []string{x, y}, y)
	s.lay("x", 3, id("no"))
	wantNoLog(t, s, 9, api.ErrMissing, x, y)
	wantAsked(t, s, x, y, id("no"))
}

// P19.2: nothing is read twice, however often it is a parent, and it is asked for nothing else.
func TestLogReadsOnce(t *testing.T) {
	s := newShelf()
	ids := []string{s.lay("n0", 0)}
	for i := 1; i < 60; i++ {
		x := number(i)
		s.has[x] = commitOf(int64(i%7), backward(ids[max(0, i-8):])...)
		ids = append(ids, x)
	}
	s.asked = nil
	l, e := history.Log(s.get, 1000, backward(ids)...)
	if len(l) != 60 || e != api.OK || len(s.asked) != 60 {
		t.Errorf("%d, %d; asked %d", len(l), e, len(s.asked))
	}
	l, e = history.Log(s.get, 1000, ids[59], ids[59], ids[0])
	if len(l) != 60 || e != api.OK || len(s.asked) != 120 {
		t.Errorf("%d, %d; asked %d", len(l), e, len(s.asked)-60)
	}
	wantPlainLog(t, s, 1000, ids[59])
	wantPlainLog(t, s, 30, ids[59], ids[3])
}
