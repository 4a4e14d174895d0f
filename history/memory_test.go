package history_test

import (
	"slices"
	"strings"
	"sync"
	"testing"
	"unsafe"

	"tussock/api"
	"tussock/history"
)

// lender hands out texts that their owner changes afterwards all the same.
type lender struct{ lent [][]byte }

func (l *lender) lend(s string) string {
	b := []byte(s)
	l.lent = append(l.lent, b)
	return unsafe.String(unsafe.SliceData(b), len(b))
}

// takeBack writes over all that was lent.
func (l *lender) takeBack() {
	for _, b := range l.lent {
		for i := range b {
			b[i] = '!'
		}
	}
	l.lent = nil
}

// get is a shelf's, with bytes that are taken back as soon as it is asked again.
func (l *lender) get(s *shelf) api.Get {
	return func(id string) (string, api.Errno) {
		l.takeBack()
		b, e := s.look(id)
		return l.lend(b), e
	}
}

// ids are lent ones, with spare room that is not theirs.
func (l *lender) ids(list ...string) []string {
	var out []string
	for _, x := range list {
		out = append(out, l.lend(x))
	}
	return append(out, "spare", "more")[:len(list)]
}

// R3: nothing of what was handed in, or of what get answered, is kept, neither while it is asked nor behind that.
func TestNothingIsKept(t *testing.T) {
	for seed := range int64(60) {
		r := newDraw(seed)
		s := r.falling(10)
		var in, answers lender
		get := answers.get(s)
		from := r.letters(10, 4)
		lent := in.ids(from...)
		was := slices.Clone(lent[:cap(lent)])
		list, e := history.Log(get, 6, lent...)
		if !slices.Equal(lent[:cap(lent)], was) {
			t.Errorf("what was handed in is not what it was: %s", told(lent))
		}
		a, b := letter(r.Intn(10)), letter(r.Intn(10))
		c, e2 := history.Read(get, in.lend(a))
		up, e3 := history.Above(get, in.lend(a), in.lend(b))
		base, e4 := history.Base(get, in.lend(a), in.lend(b))
		in.takeBack()
		answers.takeBack()
		clear(lent[:cap(lent)])
		p := plain{shelf: s}
		if want, _ := p.log(6, from...); !slices.Equal(list, want) || e != api.OK {
			t.Errorf("Log: %s, %d; want %s", told(list), e, told(want))
		}
		wantRead(t, s, a, c)
		wantUp, _ := p.above(a, b)
		wantBase, _ := p.base(a, b)
		if up != wantUp || base != wantBase || e2|e3|e4 != api.OK {
			t.Errorf("%v, %q, %d, %d, %d; want %v, %q", up, name(base), e2, e3, e4, wantUp, name(wantBase))
		}
	}
}

// R3: what get was asked for is nobody's to change: who notes it has it, though from is changed afterwards.
func TestAskedStays(t *testing.T) {
	s, a, b, c, d := diamond()
	var in lender
	var asked []string
	get := func(id string) (string, api.Errno) {
		asked = append(asked, id)
		return s.look(id)
	}
	history.Log(get, 9, in.ids(d, b)...)
	in.takeBack()
	if !slices.Equal(asked, []string{d, b, c, a}) {
		t.Errorf("asked: %s", told(asked))
	}
}

// R3: answers are the caller's alone, their spare room too, and those of two calls share nothing.
func TestAnswersAreTheCallers(t *testing.T) {
	s, a, b, c, d := diamond()
	one, _ := history.Log(s.get, 9, d)
	two, _ := history.Log(s.get, 9, d)
	first, _ := history.Read(s.get, d)
	second, _ := history.Read(s.get, d)
	clear(two[:cap(two)])
	clear(second.Parents[:cap(second.Parents)])
	if !slices.Equal(one, []string{d, c, b, a}) || !slices.Equal(first.Parents, []string{b, c}) {
		t.Errorf("%s, %s", told(one), told(first.Parents))
	}
	clear(one[:cap(one)])
	clear(first.Parents[:cap(first.Parents)])
	wantLog(t, s, 9, []string{d}, d, c, b, a)
	from := []string{d, b}
	got, _ := history.Log(s.get, 9, from...)
	clear(got[:cap(got)])
	if !slices.Equal(from, []string{d, b}) {
		t.Errorf("from is %s", told(from))
	}
}

// R4: what is answered hangs on the arguments alone: a get may ask for commits itself.
func TestGetThatAsksItself(t *testing.T) {
	s, a, b, c, d := diamond()
	get := func(id string) (string, api.Errno) {
		wantLog(t, s, 2, []string{b, c}, c, b)
		wantAbove(t, s, d, b, true)
		wantBase(t, s, b, c, a)
		return s.look(id)
	}
	if l, e := history.Log(get, 9, d); !slices.Equal(l, []string{d, c, b, a}) || e != api.OK {
		t.Errorf("Log: %s, %d", told(l), e)
	}
	if up, e := history.Above(get, b, c); up || e != api.OK {
		t.Errorf("Above: %v, %d", up, e)
	}
	if x, e := history.Base(get, b, c); x != a || e != api.OK {
		t.Errorf("Base: %q, %d", name(x), e)
	}
}

// R4: what was asked ahead, or by others meanwhile, makes no difference; what get answers now counts, not what it answered once.
func TestNothingIsRemembered(t *testing.T) {
	var all sync.WaitGroup
	for seed := range int64(8) {
		all.Go(func() {
			r := newDraw(seed)
			for range 30 {
				wantAll(t, r.wild(6), r.letters(6, 3)...)
			}
		})
	}
	all.Wait()
	s, a, b, c, d := diamond()
	wantBase(t, s, b, c, a)
	s.lay("b", 2)
	wantBase(t, s, b, c, "")
	wantLog(t, s, 9, []string{d}, d, c, b, a)
	s.lay("c", 0)
	wantLog(t, s, 9, []string{d}, d, b, c)
	wantAbove(t, s, d, a, false)
}

// R1: a get that answers for whatever it is asked, always with others as parents: each call ends.
func TestWithoutEnd(t *testing.T) {
	n := 0
	get := func(string) (string, api.Errno) {
		n++
		return commitOf(int64(n%3), number(n), number(n+50000)), api.OK
	}
	if l, e := history.Log(get, 1<<40, strings.Repeat("x", 40)); len(l) != 0 || e != api.ErrHistoryLong || n != 4096 {
		t.Errorf("Log: %s, %d, %d asked", told(l), e, n)
	}
	if up, e := history.Above(get, "x", "y"); up || e != api.ErrHistoryLong {
		t.Errorf("Above: %v, %d", up, e)
	}
	if x, e := history.Base(get, "x", "x"); x != "" || e != api.ErrHistoryLong {
		t.Errorf("Base: %q, %d", x, e)
	}
}
