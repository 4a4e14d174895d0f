package diff_test

import (
	"slices"
	"testing"
	"unsafe"

	"tussock/api"
	"tussock/diff"
)

// lender hands out texts that their owner changes afterwards all the same.
type lender struct{ lent [][]byte }

func (l *lender) lend(s string) string {
	b := []byte(s)
	l.lent = append(l.lent, b)
	return unsafe.String(unsafe.SliceData(b), len(b))
}

// takeBack writes over all that was lent.
func (l *lender) takeBack() {
	for _, b := range l.lent {
		for i := range b {
			b[i] = '!'
		}
	}
	l.lent = nil
}

// get is a shelf's, with bytes that are taken back as soon as it is asked again.
func (l *lender) get(s *shelf) api.Get {
	return func(id string) (string, api.Errno) {
		l.takeBack()
		b, e := s.look(id)
		return l.lend(b), e
	}
}

// R3: nothing of what get answered is kept, neither while it is asked nor behind that, nor of the roots.
func TestMapsKeepsNothing(t *testing.T) {
	s := newShelf()
	was := numbered(1000)
	now := with(without(with(was, "a", "new"), 500), was[700].Key, "another one")
	a, b := s.build(was...), s.build(now...)
	var roots, answers lender
	got, e := diff.Maps(answers.get(s), roots.lend(a), roots.lend(b))
	roots.takeBack()
	answers.takeBack()
	if want := plainChanges(was, now); e != api.OK || !slices.Equal(got, want) {
		t.Errorf("%d, %s; want %s", e, told(got), told(want))
	}
}

// R3: puts share no memory with changes; these are neither written into, nor is their spare room.
func TestPutsKeepsNothing(t *testing.T) {
	var l lender
	room := []api.Change{{Key: l.lend("a"), Was: l.lend("1"), Now: l.lend("2"), Had: true, Has: true}, {Key: l.lend("b"), Was: l.lend("3"), Had: true}, {Key: "spare"}, {Key: "more"}}
	was := slices.Clone(room)
	puts := diff.Puts(room[:2]...)
	if !slices.Equal(room, was) {
		t.Error("what was handed in is not what it was")
	}
	clear(room)
	l.takeBack()
	if want := []api.Put{{Key: "a", Val: "2"}, {Key: "b", Gone: true}}; !slices.Equal(puts, want) {
		t.Errorf("%v; want %v", puts, want)
	}
}

// R3: answers are the caller's alone, their spare room too.
func TestAnswersAreTheCallers(t *testing.T) {
	s := newShelf()
	a, b := s.build(numbered(100)...), s.build(letters("abc")...)
	one, _ := diff.Maps(s.get, a, b)
	kept := slices.Clone(one)
	two, _ := diff.Maps(s.get, a, b)
	clear(two[:cap(two)])
	puts := diff.Puts(one...)
	keptPuts := slices.Clone(puts)
	more := diff.Puts(one...)
	clear(more[:cap(more)])
	if !slices.Equal(one, kept) || !slices.Equal(puts, keptPuts) {
		t.Error("two answers share their room")
	}
	clear(one[:cap(one)])
	if !slices.Equal(puts, keptPuts) {
		t.Error("puts share their room with changes")
	}
	wantMaps(t, "again", s, a, b)
}

// R4: what is answered hangs on the arguments alone: a get may ask for changes itself.
func TestGetThatAsksItself(t *testing.T) {
	s := newShelf()
	a, b := s.build(numbered(300)...), s.build(with(numbered(299), "a", "new")...)
	want := plainChanges(numbered(300), with(numbered(299), "a", "new"))
	get := func(id string) (string, api.Errno) {
		if l, e := diff.Maps(s.look, b, a); e != api.OK || !slices.Equal(l, turnedRound(want)) {
			t.Errorf("within: %d, %s", e, told(l))
		}
		return s.look(id)
	}
	if l, e := diff.Maps(get, a, b); e != api.OK || !slices.Equal(l, want) {
		t.Errorf("%d, %s; want %s", e, told(l), told(want))
	}
}
