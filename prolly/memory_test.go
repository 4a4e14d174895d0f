package prolly_test

import (
	"slices"
	"testing"
	"unsafe"

	"tussock/api"
	"tussock/prolly"
)

// lender hands out texts that their owner changes afterwards all the same.
type lender struct{ lent [][]byte }

func (l *lender) lend(s string) string {
	b := []byte(s)
	l.lent = append(l.lent, b)
	return unsafe.String(unsafe.SliceData(b), len(b))
}

// takeBack writes over all that was lent.
func (l *lender) takeBack() {
	for _, b := range l.lent {
		for i := range b {
			b[i] = '!'
		}
	}
}

func (l *lender) pairs(pairs []api.Pair) []api.Pair {
	var out []api.Pair
	for _, p := range pairs {
		out = append(out, api.Pair{Key: l.lend(p.Key), Val: l.lend(p.Val)})
	}
	return out
}

// get is a shelf's, with bytes that are taken back.
func (l *lender) get(s *shelf) api.Get {
	return func(id string) (string, api.Errno) {
		b, e := s.look(id)
		return l.lend(b), e
	}
}

// R3: what was built shares no memory with the pairs; these are neither written into, nor is their spare room.
func TestBuildKeepsNothing(t *testing.T) {
	for _, n := range []int{0, 1, 64, 65, 1000} {
		var l lender
		pairs := l.pairs(numbered(n))
		room := append(slices.Clone(pairs), slices.Repeat([]api.Pair{{Key: "spare"}}, 50)...)
		was := slices.Clone(room)
		root, objs, e := prolly.Build(room[:n]...)
		if !slices.Equal(room, was) {
			t.Error("what was handed in is not what it was")
		}
		clear(room)
		l.takeBack()
		wantMade(t, "Build", root, objs, e, numbered(n))
	}
}

// R3: nor does what is found, listed, gone through, edited with what get answered, or with what was handed in.
func TestNothingOfGetIsKept(t *testing.T) {
	pairs := numbered(1000)
	s, root := built(t, pairs...)
	var l lender
	val, ok, e := prolly.Find(l.get(s), l.lend(root), l.lend(pairs[500].Key))
	listed, e2 := prolly.List(l.get(s), l.lend(root), l.lend(pairs[100].Key), l.lend(pairs[900].Key))
	var gone []api.Pair
	for p := range prolly.All(l.get(s), l.lend(root), l.lend(pairs[300].Key)) {
		gone = append(gone, p)
	}
	puts := []api.Put{{Key: l.lend("new"), Val: l.lend("one")}, {Key: l.lend(pairs[0].Key), Gone: true}}
	now, objs, e3 := prolly.Edit(l.get(s), l.lend(root), puts...)
	l.takeBack()
	if val != pairs[500].Val || !ok || e != api.OK {
		t.Errorf("Find: %q %t %d", val, ok, e)
	}
	if !slices.Equal(listed, pairs[100:900]) || e2 != api.OK {
		t.Errorf("List: %d", e2)
	}
	if !slices.Equal(gone, pairs[300:]) {
		t.Error("All")
	}
	wantMade(t, "Edit", now, objs, e3, append(slices.Clone(pairs[1:]), api.Pair{Key: "new", Val: "one"}))
}

// R3: what All was handed may be changed ahead of its being gone through, and what get answered meanwhile.
func TestAllKeepsNothing(t *testing.T) {
	pairs := numbered(1000)
	s, root := built(t, pairs...)
	var handed lender
	all := prolly.All(func(id string) (string, api.Errno) {
		var l lender
		b, e := l.get(s)(id)
		handed.lent = append(handed.lent, l.lent...)
		return b, e
	}, handed.lend(root), handed.lend(pairs[300].Key))
	handed.takeBack()
	for range 2 {
		var got []api.Pair
		for p, e := range all {
			if e != api.OK {
				t.Fatal(e)
			}
			handed.takeBack()
			got = append(got, p)
			p.Key, p.Val = "", ""
		}
		if !slices.Equal(got, pairs[300:]) {
			t.Errorf("%d pairs", len(got))
		}
	}
}

// R3: puts are neither written into, nor is their spare room.
func TestEditLeavesPutsAlone(t *testing.T) {
	x := newSmall()
	room := append(putsOf(letters("zya")...), gone("b", "spare")...)
	was := slices.Clone(room)
	now, objs, e := prolly.Edit(x.get, x.root.Id, room[:4]...)
	if !slices.Equal(room, was) {
		t.Error("what was handed in is not what it was")
	}
	wantMade(t, "Edit", now, objs, e, letters("adfhkmpryz"))
}

// R3: answers are the caller's alone, their spare room too.
func TestAnswersAreTheCallers(t *testing.T) {
	pairs := numbered(300)
	s, root := built(t, pairs...)
	_, objs, _ := prolly.Build(pairs...)
	kept := slices.Clone(objs)
	_, more, _ := prolly.Build(pairs...)
	clear(more[:cap(more)])
	_, edited, _ := prolly.Edit(s.get, root)
	clear(edited[:cap(edited)])
	if !slices.Equal(objs, kept) {
		t.Error("two answers of objects share their room")
	}
	one, _ := prolly.List(s.get, root, "", "")
	two, _ := prolly.List(s.get, root, "", "")
	clear(two[:cap(two)])
	if !slices.Equal(one, pairs) {
		t.Error("two answers of List share their room")
	}
	leaf, leafRoot := built(t, letters("abc")...)
	one, _ = prolly.List(leaf.get, leafRoot, "", "c")
	two, _ = prolly.List(leaf.get, leafRoot, "", "b")
	_ = append(two, letters("x")...)
	if !slices.Equal(one, letters("ab")) {
		t.Error("spare room is shared")
	}
	wantBuilt(t, "again", pairs...)
	wantListed(t, "again", s, root, "", "")
}

// R4: what is answered hangs on the arguments alone: a get may call again meanwhile.
func TestGetThatAsksItself(t *testing.T) {
	x := newSmall()
	get := func(id string) (string, api.Errno) {
		if l, e := prolly.List(x.look, x.root.Id, "d", "l"); !slices.Equal(l, letters("dfhk")) || e != api.OK {
			t.Errorf("within: %v %d", l, e)
		}
		return x.look(id)
	}
	if l, e := prolly.List(get, x.root.Id, "", ""); !slices.Equal(l, letters("bdfhkmpr")) || e != api.OK {
		t.Errorf("List: %v %d", l, e)
	}
	if val, ok, e := prolly.Find(get, x.root.Id, "m"); val != "value of m" || !ok || e != api.OK {
		t.Errorf("Find: %q %t %d", val, ok, e)
	}
}
