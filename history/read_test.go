package history_test

import (
	"strings"
	"testing"

	"tussock/api"
	"tussock/history"
	"tussock/object"
)

// P19.1: a commit, all of it.
func TestRead(t *testing.T) {
	s := newShelf()
	for _, c := range []api.Commit{
		{Tree: id("t")},
		{Tree: id("t"), Parents: []string{id("p")}, Who: "ann", Time: 5, Note: "first"},
		{Tree: id("u"), Parents: []string{id("q"), id("p"), id("u")}, Who: strings.Repeat("w", 64), Time: 1 << 62, Note: strings.Repeat("n", 1024)},
		{Tree: id("t"), Parents: []string{id("8"), id("7"), id("6"), id("5"), id("4"), id("3"), id("2"), id("1")}, Note: "\x00\xFF\n"},
	} {
		o, e := object.Commit(c)
		if e != api.OK {
			t.Fatal(e)
		}
		s.has[o.Id] = o.Bytes
		wantRead(t, s, o.Id, c)
	}
}

// P19.1: bytes that are no commit's, and those of another kind.
func TestReadWrongBytes(t *testing.T) {
	s := newShelf()
	for _, b := range wrongBytes() {
		s.has[id("x")] = b
		wantUnread(t, s, id("x"), api.ErrObjectByte)
	}
}

// P19.1: one that is not there, and errors of get's own, whatever it answers beside them.
func TestReadErrors(t *testing.T) {
	s := newShelf()
	wantUnread(t, s, id("x"), api.ErrMissing)
	for _, e := range []api.Errno{1, 2, 3, 81, 92, 172, 190, -1, 1 << 30} {
		s.errs[id("x")] = e
		wantUnread(t, s, id("x"), e)
		get := func(string) (string, api.Errno) { return commitOf(1), e }
		if c, got := history.Read(get, id("x")); !same(c, api.Commit{}) || got != e {
			t.Errorf("%v, %d; want none, %d", c, got, e)
		}
		if l, got := history.Log(get, 1, id("x")); len(l) != 0 || got != e {
			t.Errorf("Log: %s, %d; want none, %d", told(l), got, e)
		}
	}
}

// P19.1: get is asked for ids of whatever length, as they are.
func TestReadStrangeIds(t *testing.T) {
	s := newShelf()
	for _, x := range []string{"", "a", id("a")[:31], id("a") + ".", "\x00", "\xFF\xFE", strings.Repeat("x", 100000)} {
		wantUnread(t, s, x, api.ErrMissing)
		wantNoLog(t, s, 1, api.ErrMissing, x)
		wantNoAbove(t, s, x, id("a"), api.ErrMissing)
		wantNoBase(t, s, x, x, api.ErrMissing)
		wantAbove(t, s, x, x, true)
		wantAsked(t, s)
		s.has[x] = commitOf(3)
		wantRead(t, s, x, api.Commit{Tree: id("tree"), Who: "ann", Time: 3, Note: "note"})
		wantLog(t, s, 5, []string{x}, x)
		wantAbove(t, s, x, id("a"), false)
		wantBase(t, s, x, x, x)
	}
	wantLog(t, s, 3, []string{"", "a"}, "a", "")
}

// R4: a nil get is none that calls could ask; what is wrong with a number is told ahead of that.
func TestNilGet(t *testing.T) {
	if c, e := history.Read(nil, id("a")); !same(c, api.Commit{}) || e != api.ErrNil {
		t.Errorf("Read: %v, %d", c, e)
	}
	for most := -1; most < 3; most++ {
		want := api.ErrNil
		if most < 0 {
			want = api.ErrArg
		}
		for _, from := range [][]string{nil, {id("a")}} {
			if l, e := history.Log(nil, most, from...); len(l) != 0 || e != want {
				t.Errorf("Log(%d): %s, %d; want none, %d", most, told(l), e, want)
			}
		}
	}
	for _, b := range []string{id("a"), id("b")} {
		if up, e := history.Above(nil, id("a"), b); up || e != api.ErrNil {
			t.Errorf("Above: %v, %d", up, e)
		}
		if x, e := history.Base(nil, id("a"), b); x != "" || e != api.ErrNil {
			t.Errorf("Base: %q, %d", x, e)
		}
	}
}
