package history_test

import (
	"fmt"
	"math/rand"
	"slices"
	"strings"
	"testing"

	"tussock/api"
	"tussock/history"
	"tussock/object"
	"tussock/wire"
)

// shelf has objects' bytes by their ids, and notes what it is asked. For an id that has an error it answers that.
type shelf struct {
	has   map[string]string
	errs  map[string]api.Errno
	asked []string
}

func newShelf() *shelf { return &shelf{has: map[string]string{}, errs: map[string]api.Errno{}} }

func (s *shelf) get(id string) (string, api.Errno) {
	s.asked = append(s.asked, strings.Clone(id))
	return s.look(id)
}

// look is get without a note.
func (s *shelf) look(id string) (string, api.Errno) {
	if e := s.errs[id]; e != api.OK {
		return "", e
	}
	b, ok := s.has[id]
	if !ok {
		return "", api.ErrMissing
	}
	return b, api.OK
}

// lay lays a commit under an id that is not the sum of its bytes: nobody asks for that, and it may be its own parent.
func (s *shelf) lay(name string, time int64, parents ...string) string {
	s.has[id(name)] = commitOf(time, parents...)
	delete(s.errs, id(name))
	return id(name)
}

func commitOf(time int64, parents ...string) string {
	o, e := object.Commit(api.Commit{Tree: id("tree"), Parents: parents, Who: "ann", Time: time, Note: "note"})
	if e != api.OK {
		panic(e)
	}
	return o.Bytes
}

// rawCommit are bytes as a commit has them, right or not.
func rawCommit(time int64, parents ...string) string {
	b := wire.PutInt([]byte("K"+id("tree")), int64(len(parents)))
	for _, p := range parents {
		b = append(b, p...)
	}
	return string(wire.PutText(wire.PutInt(wire.PutText(b, "ann"), time), "note"))
}

// id is 32 bytes for a name.
func id(name string) string { return name + strings.Repeat(".", 32-len(name)) }

// idEnd is one of 256 ids that are told apart by their last byte.
func idEnd(c byte) string { return strings.Repeat("i", 31) + string([]byte{c}) }

func number(i int) string { return id(fmt.Sprintf("n%05d", i)) }

// told are ids' names, as far as there are such.
func told(ids []string) string {
	out := fmt.Sprintf("%d:", len(ids))
	for _, x := range ids[:min(len(ids), 20)] {
		out += fmt.Sprintf(" %q", name(x))
	}
	return out
}

func name(id string) string {
	return strings.TrimRight(id[:min(len(id), 40)], ".")
}

func wantRead(t *testing.T, s *shelf, id string, want api.Commit) {
	t.Helper()
	s.asked = nil
	got, e := history.Read(s.get, id)
	if !same(got, want) || e != api.OK {
		t.Errorf("Read(%q): %v, %d; want %v, OK", name(id), got, e, want)
	}
	if !slices.Equal(s.asked, []string{id}) {
		t.Errorf("Read(%q) asks %s", name(id), told(s.asked))
	}
}

func same(a, b api.Commit) bool {
	return a.Tree == b.Tree && slices.Equal(a.Parents, b.Parents) && a.Who == b.Who && a.Time == b.Time && a.Note == b.Note
}

func wantUnread(t *testing.T, s *shelf, id string, want api.Errno) {
	t.Helper()
	s.asked = nil
	if got, e := history.Read(s.get, id); !same(got, api.Commit{}) || e != want {
		t.Errorf("Read(%q): %v, %d; want none, %d", name(id), got, e, want)
	}
	if !slices.Equal(s.asked, []string{id}) {
		t.Errorf("Read(%q) asks %s", name(id), told(s.asked))
	}
}

// wantLog asks for what the test itself says, and for what the plain reckoning says.
func wantLog(t *testing.T, s *shelf, most int, from []string, want ...string) {
	t.Helper()
	if got, e := history.Log(s.get, most, from...); !slices.Equal(got, want) || e != api.OK {
		t.Errorf("Log(%d, %s): %s, %d; want %s, OK", most, told(from), told(got), e, told(want))
	}
	wantPlainLog(t, s, most, from...)
}

func wantNoLog(t *testing.T, s *shelf, most int, want api.Errno, from ...string) {
	t.Helper()
	if got, e := history.Log(s.get, most, from...); len(got) != 0 || e != want {
		t.Errorf("Log(%d, %s): %s, %d; want none, %d", most, told(from), told(got), e, want)
	}
	wantPlainLog(t, s, most, from...)
}

// wantPlainLog holds what is answered, and what is read, against the plain reckoning.
func wantPlainLog(t *testing.T, s *shelf, most int, from ...string) {
	t.Helper()
	p := plain{shelf: s}
	want, wantE := p.log(most, from...)
	s.asked = nil
	if got, e := history.Log(s.get, most, from...); !slices.Equal(got, want) || e != wantE {
		t.Errorf("Log(%d, %s): %s, %d; want %s, %d", most, told(from), told(got), e, told(want), wantE)
	}
	if !slices.Equal(s.asked, p.read) {
		t.Errorf("Log(%d, %s) asks %s; want %s", most, told(from), told(s.asked), told(p.read))
	}
}

func wantAbove(t *testing.T, s *shelf, a, b string, want bool) {
	t.Helper()
	if got, e := history.Above(s.get, a, b); got != want || e != api.OK {
		t.Errorf("Above(%q, %q): %v, %d; want %v, OK", name(a), name(b), got, e, want)
	}
	wantPlainAbove(t, s, a, b)
}

func wantNoAbove(t *testing.T, s *shelf, a, b string, want api.Errno) {
	t.Helper()
	if got, e := history.Above(s.get, a, b); got || e != want {
		t.Errorf("Above(%q, %q): %v, %d; want false, %d", name(a), name(b), got, e, want)
	}
	wantPlainAbove(t, s, a, b)
}

func wantPlainAbove(t *testing.T, s *shelf, a, b string) {
	t.Helper()
	p := plain{shelf: s}
	want, wantE := p.above(a, b)
	s.asked = nil
	if got, e := history.Above(s.get, a, b); got != want || e != wantE {
		t.Errorf("Above(%q, %q): %v, %d; want %v, %d", name(a), name(b), got, e, want, wantE)
	}
	if !slices.Equal(s.asked, p.read) {
		t.Errorf("Above(%q, %q) asks %s; want %s", name(a), name(b), told(s.asked), told(p.read))
	}
}

func wantBase(t *testing.T, s *shelf, a, b, want string) {
	t.Helper()
	if got, e := history.Base(s.get, a, b); got != want || e != api.OK {
		t.Errorf("Base(%q, %q): %q, %d; want %q, OK", name(a), name(b), name(got), e, name(want))
	}
	wantPlainBase(t, s, a, b)
}

func wantNoBase(t *testing.T, s *shelf, a, b string, want api.Errno) {
	t.Helper()
	if got, e := history.Base(s.get, a, b); got != "" || e != want {
		t.Errorf("Base(%q, %q): %q, %d; want empty, %d", name(a), name(b), name(got), e, want)
	}
	wantPlainBase(t, s, a, b)
}

func wantPlainBase(t *testing.T, s *shelf, a, b string) {
	t.Helper()
	p := plain{shelf: s}
	want, wantE := p.base(a, b)
	s.asked = nil
	if got, e := history.Base(s.get, a, b); got != want || e != wantE {
		t.Errorf("Base(%q, %q): %q, %d; want %q, %d", name(a), name(b), name(got), e, name(want), wantE)
	}
	if !slices.Equal(s.asked, p.read) {
		t.Errorf("Base(%q, %q) asks %s; want %s", name(a), name(b), told(s.asked), told(p.read))
	}
}

// wantAsked is what the call ahead of this asked the shelf for.
func wantAsked(t *testing.T, s *shelf, ids ...string) {
	t.Helper()
	if !slices.Equal(s.asked, ids) {
		t.Errorf("asked: %s; want %s", told(s.asked), told(ids))
	}
}

// wantAll asks all calls for what the plain reckoning says of some ids.
func wantAll(t *testing.T, s *shelf, ids ...string) {
	t.Helper()
	for most := range len(s.has) + 2 {
		wantPlainLog(t, s, most, ids...)
	}
	for _, a := range ids {
		for _, b := range ids {
			wantPlainAbove(t, s, a, b)
			wantPlainBase(t, s, a, b)
		}
	}
}

// diamond are the chapter's examples: d of b and c, these of a.
func diamond() (s *shelf, a, b, c, d string) {
	s = newShelf()
	a = s.lay("a", 1)
	b = s.lay("b", 2, a)
	c = s.lay("c", 3, a)
	d = s.lay("d", 4, b, c)
	return
}

// chain lays so many commits, each of the one ahead of it, with rising times: their ids.
func (s *shelf) chain(n int) []string {
	var ids, parent []string
	for i := range n {
		s.has[number(i)] = commitOf(int64(i), parent...)
		parent = []string{number(i)}
		ids = append(ids, number(i))
	}
	return ids
}

// roots lays so many commits without parents, with rising times.
func (s *shelf) roots(n int) []string {
	var ids []string
	for i := range n {
		s.has[number(i)] = commitOf(int64(i))
		ids = append(ids, number(i))
	}
	return ids
}

func backward(ids []string) []string {
	out := slices.Clone(ids)
	slices.Reverse(out)
	return out
}

// wrongBytes are bytes that are no commit's, other objects' among them.
func wrongBytes() []string {
	chunk, _ := object.Chunk("abc")
	leaf, _ := object.Leaf(api.Pair{Key: "k", Val: "v"})
	empty, _ := object.Leaf()
	fan, _ := object.Fan(api.Fan{Level: 1, Kids: []api.Part{{Id: id("x"), Size: 1}}})
	branch, _ := object.Branch(api.Branch{Level: 1, Kids: []api.Link{{Last: "k", Id: id("x"), Many: 1}}})
	right := commitOf(7, id("p"))
	var nine []string
	for c := range byte(9) {
		nine = append(nine, idEnd(c))
	}
	return []string{"", "K", "k", "\x00", right[:len(right)-1], right + "\x00", right[1:], "k" + right[1:],
		chunk.Bytes, leaf.Bytes, empty.Bytes, fan.Bytes, branch.Bytes,
		rawCommit(-1), rawCommit(-1 << 63), rawCommit(1<<62 + 1), rawCommit(1<<63 - 1),
		rawCommit(1, id("p"), id("p")), rawCommit(1, id("p"), id("q"), id("p")), rawCommit(1, nine...), rawCommit(1, "short"),
		strings.Repeat("K", 100000)}
}

// draw draws commits that are told apart by letters.
type draw struct{ *rand.Rand }

func newDraw(seed int64) draw { return draw{rand.New(rand.NewSource(seed))} }

func letter(i int) string { return idEnd(byte('a' + i)) }

// parents are some of the first so many, in any order.
func (r draw) parents(end int) []string {
	var out []string
	for range r.Intn(4) {
		if p := letter(r.Intn(end + 1)); p != letter(end) && !slices.Contains(out, p) {
			out = append(out, p)
		}
	}
	return out
}

// rising lays commits whose times rise along the way, two of each time: no circles.
func (r draw) rising(n int) *shelf {
	s := newShelf()
	for i := range n {
		s.has[letter(i)] = commitOf(int64(i/2), r.parents(i/2*2)...)
	}
	return s
}

// falling lays commits with times of few kinds, rising along the way or not: no circles.
func (r draw) falling(n int) *shelf {
	s := newShelf()
	for i := range n {
		s.has[letter(i)] = commitOf(int64(r.Intn(4)), r.parents(i)...)
	}
	return s
}

// wild lays commits that go back to any, themselves too.
func (r draw) wild(n int) *shelf {
	s := newShelf()
	for i := range n {
		s.has[letter(i)] = commitOf(int64(r.Intn(4)), r.parents(n)...)
	}
	return s
}

// harm takes some away, and breaks some.
func (r draw) harm(s *shelf, n int) {
	for range 1 + r.Intn(2) {
		at := letter(r.Intn(n))
		switch r.Intn(3) {
		case 0:
			delete(s.has, at)
		case 1:
			s.errs[at] = api.Errno(r.Intn(5) - 3)
		case 2:
			wrong := wrongBytes()
			s.has[at] = wrong[r.Intn(len(wrong)-1)]
		}
	}
}

func (r draw) letters(n, most int) []string {
	var out []string
	for range r.Intn(most + 1) {
		out = append(out, letter(r.Intn(n)))
	}
	return out
}
