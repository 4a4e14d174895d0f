package prolly_test

import (
	"crypto/sha256"
	"encoding/hex"
	"math/rand"
	"slices"
	"strconv"
	"strings"
	"testing"

	"tussock/api"
	"tussock/prolly"
)

// step is one thing that happens while a map is gone through: a node is asked for, or a pair, or an error, is told.
type step struct {
	asked string
	api.Pair
	e api.Errno
}

// shelf has objects' bytes by their ids, and notes what it is asked. For an id that has an error it answers that.
type shelf struct {
	has   map[string]string
	errs  map[string]api.Errno
	steps []step
}

func shelfOf(objs ...api.Object) *shelf {
	s := &shelf{has: map[string]string{}, errs: map[string]api.Errno{}}
	for _, o := range objs {
		s.has[o.Id] = o.Bytes
	}
	return s
}

func (s *shelf) get(id string) (string, api.Errno) {
	s.steps = append(s.steps, step{asked: strings.Clone(id)})
	return s.look(id)
}

// look is get without a note.
func (s *shelf) look(id string) (string, api.Errno) {
	if e := s.errs[id]; e != api.OK {
		return "", e
	}
	b, ok := s.has[id]
	if !ok {
		return "", api.ErrMissing
	}
	return b, api.OK
}

// lay lays bytes under their id.
func (s *shelf) lay(b string) string {
	id := sumOf(b)
	s.has[id] = b
	return id
}

func (s *shelf) layLeaf(pairs ...api.Pair) api.Link {
	l := api.Link{Id: s.lay(plainLeaf(pairs)), Many: int64(len(pairs))}
	if len(pairs) > 0 {
		l.Last = pairs[len(pairs)-1].Key
	}
	return l
}

func (s *shelf) layBranch(level int, kids ...api.Link) api.Link {
	l := api.Link{Id: s.lay(plainBranch(api.Branch{Level: level, Kids: kids})), Last: kids[len(kids)-1].Last}
	for _, k := range kids {
		l.Many += k.Many
	}
	return l
}

// built is a map that Build made, on a shelf of its own.
func built(t *testing.T, pairs ...api.Pair) (*shelf, string) {
	t.Helper()
	root, objs, e := prolly.Build(pairs...)
	if e != api.OK {
		t.Fatalf("Build of %d pairs: %d", len(pairs), e)
	}
	return shelfOf(objs...), root
}

func sumOf(b string) string {
	sum := sha256.Sum256([]byte(b))
	return string(sum[:])
}

func hexOf(s string) string { return hex.EncodeToString([]byte(s)) }

// id is one of 256 that are nobody's.
func id(c byte) string { return repeated(c, 32) }

func repeated(c byte, n int) string { return strings.Repeat(string([]byte{c}), n) }

// pairsOf are pairs of these keys, each with a value of its own.
func pairsOf(keys ...string) []api.Pair {
	var out []api.Pair
	for _, k := range keys {
		out = append(out, api.Pair{Key: k, Val: "value of " + k})
	}
	return out
}

// numbered are n pairs whose keys count up.
func numbered(n int) []api.Pair {
	var out []api.Pair
	for i := range n {
		out = append(out, api.Pair{Key: "k" + strconv.Itoa(10000+i), Val: strconv.Itoa(i)})
	}
	return out
}

// letters are a pair for each letter.
func letters(keys string) []api.Pair { return pairsOf(strings.Split(keys, "")...) }

func putsOf(pairs ...api.Pair) []api.Put {
	var out []api.Put
	for _, p := range pairs {
		out = append(out, api.Put{Key: p.Key, Val: p.Val})
	}
	return out
}

func gone(keys ...string) []api.Put {
	var out []api.Put
	for _, k := range keys {
		out = append(out, api.Put{Key: k, Gone: true})
	}
	return out
}

// sizesAtEdges are how many pairs a map has where something may change.
var sizesAtEdges = []int{0, 1, 2, 3, 17, 63, 64, 65, 66, 127, 128, 129, 1000, 4095, 4096}

// drawnPairs are n pairs with drawn keys and values of all lengths.
func drawnPairs(r *rand.Rand, n int) []api.Pair {
	byKey := map[string]string{}
	for len(byKey) < n {
		byKey[drawn(r, 1+r.Intn(64))] = drawn(r, r.Intn(129))
	}
	return sorted(byKey)
}

func sorted(byKey map[string]string) []api.Pair {
	var out []api.Pair
	for k, v := range byKey {
		out = append(out, api.Pair{Key: k, Val: v})
	}
	slices.SortFunc(out, func(a, b api.Pair) int { return strings.Compare(a.Key, b.Key) })
	return out
}

func drawn(r *rand.Rand, n int) string {
	b := make([]byte, n)
	r.Read(b)
	return string(b)
}

// heads tells ids by their first digits.
func heads(ids []string) string {
	var out []string
	for _, s := range ids {
		out = append(out, hexOf(s)[:min(2*len(s), 8)])
	}
	return strings.Join(out, " ")
}

// told tells steps in short.
func told(steps []step) string {
	var out []string
	for _, x := range steps {
		switch {
		case x.e != api.OK:
			out = append(out, "error "+strconv.Itoa(int(x.e))+x.Key+x.Val)
		case x.asked != "":
			out = append(out, heads([]string{x.asked}))
		default:
			out = append(out, strconv.Quote(x.Key))
		}
	}
	if len(out) > 20 {
		out = append(out[:20], "..")
	}
	return strings.Join(out, " ")
}

func idsOf(links ...api.Link) []string {
	var out []string
	for _, l := range links {
		out = append(out, l.Id)
	}
	return out
}

func asks(ids ...string) []step {
	var out []step
	for _, id := range ids {
		out = append(out, step{asked: id})
	}
	return out
}

func wantAsked(t *testing.T, what string, s *shelf, want ...string) {
	t.Helper()
	if !slices.Equal(s.steps, asks(want...)) {
		t.Errorf("%s: asked for %d (%s); want %d (%s)", what, len(s.steps), told(s.steps), len(want), heads(want))
	}
}

// wantMade holds an answer against the objects that a map must have.
func wantMade(t *testing.T, what string, root string, objs []api.Object, e api.Errno, pairs []api.Pair) {
	t.Helper()
	want, all := plainBuild(pairs)
	if e != api.OK || root != want {
		t.Errorf("%s: %d, %x; want %x", what, e, root, want)
	}
	if !slices.Equal(objs, all) {
		t.Errorf("%s: %d objects; want %d", what, len(objs), len(all))
	}
}

// wantNoMap asks for an error and for nothing beside it.
func wantNoMap(t *testing.T, what string, root string, objs []api.Object, e, want api.Errno) {
	t.Helper()
	if e != want || root != "" || len(objs) != 0 {
		t.Errorf("%s: %d, %x, %d objects; want %d alone", what, e, root, len(objs), want)
	}
}

// wantBuilt asks Build for what the model makes.
func wantBuilt(t *testing.T, what string, pairs ...api.Pair) {
	t.Helper()
	root, objs, e := prolly.Build(pairs...)
	wantMade(t, "Build "+what, root, objs, e, pairs)
}

func wantNotBuilt(t *testing.T, what string, want api.Errno, pairs ...api.Pair) {
	t.Helper()
	root, objs, e := prolly.Build(pairs...)
	wantNoMap(t, "Build "+what, root, objs, e, want)
}

// wantFound asks for a key's value, and for what is asked, as the model says.
func wantFound(t *testing.T, what string, s *shelf, root, key string) {
	t.Helper()
	s.steps = nil
	val, ok, e := prolly.Find(s.get, root, key)
	want := plainFind(s, root, key)
	if val != want.val || ok != want.ok || e != want.e {
		t.Errorf("%s: Find(%q): %q %t %d; want %q %t %d", what, key, val, ok, e, want.val, want.ok, want.e)
	}
	wantAsked(t, what+": Find", s, want.asked...)
}

// wantListed asks for pairs, and for what is asked, as the model says.
func wantListed(t *testing.T, what string, s *shelf, root, lo, hi string) {
	t.Helper()
	s.steps = nil
	got, e := prolly.List(s.get, root, lo, hi)
	steps := plainSteps(s, root, lo, hi)
	want, wantE := toldBy(steps)
	if e != wantE || !slices.Equal(got, want) {
		t.Errorf("%s: List(%q, %q): %d, %d pairs; want %d, %d", what, lo, hi, e, len(got), wantE, len(want))
	}
	wantAsked(t, what+": List", s, askedBy(steps)...)
}

// wantListError asks for an error, and for nothing beside it.
func wantListError(t *testing.T, what string, s *shelf, root, lo, hi string, want api.Errno) {
	t.Helper()
	if got, e := prolly.List(s.get, root, lo, hi); e != want || len(got) != 0 {
		t.Errorf("%s: List(%q, %q): %d, %d pairs; want %d alone", what, lo, hi, e, len(got), want)
	}
	wantListed(t, what, s, root, lo, hi)
}

// wantGone goes through all pairs, and leaves early after some; it asks for each step, as the model says.
func wantGone(t *testing.T, what string, s *shelf, root, lo string) {
	t.Helper()
	want := plainSteps(s, root, lo, "")
	wantSteps(t, what, s, root, lo, -1, want)
	for _, n := range []int{1, 2, 3, 5, 64, 65} {
		wantSteps(t, what, s, root, lo, n, upTo(want, n))
	}
}

// wantSteps goes through pairs till so many were told (all, if most is below 0).
func wantSteps(t *testing.T, what string, s *shelf, root, lo string, most int, want []step) {
	t.Helper()
	s.steps = nil
	n := 0
	for p, e := range prolly.All(s.get, root, lo) {
		s.steps = append(s.steps, step{Pair: p, e: e})
		if n++; n == most {
			break
		}
	}
	if !slices.Equal(s.steps, want) {
		t.Errorf("%s: All(%q) left after %d: %s; want %s", what, lo, most, told(s.steps), told(want))
	}
}

func wantMany(t *testing.T, what string, s *shelf, root string) {
	t.Helper()
	s.steps = nil
	n, e := prolly.Many(s.get, root)
	want, wantE := plainMany(s, root)
	if n != want || e != wantE {
		t.Errorf("%s: Many: %d %d; want %d %d", what, n, e, want, wantE)
	}
	wantAsked(t, what+": Many", s, root)
}

// wantEdited asks for the changed map, and for what is asked, as the model says.
func wantEdited(t *testing.T, what string, s *shelf, root string, puts ...api.Put) {
	t.Helper()
	s.steps = nil
	was := slices.Clone(puts)
	now, objs, e := prolly.Edit(s.get, root, puts...)
	want, asked, wantE := plainEdit(s, root, puts)
	if wantE != api.OK {
		wantNoMap(t, what+": Edit", now, objs, e, wantE)
	} else {
		wantMade(t, what+": Edit", now, objs, e, want)
	}
	wantAsked(t, what+": Edit", s, asked...)
	if !slices.Equal(puts, was) {
		t.Errorf("%s: the puts are not what they were", what)
	}
}

// small is a map of eight pairs: a branch of Level 2 over two of Level 1, over leaves of two, two, one and three pairs.
type small struct {
	*shelf
	root, left, right, bd, fh, k, mpr api.Link
}

func newSmall() small {
	s := shelfOf()
	x := small{shelf: s, bd: s.layLeaf(letters("bd")...), fh: s.layLeaf(letters("fh")...), k: s.layLeaf(letters("k")...), mpr: s.layLeaf(letters("mpr")...)}
	x.left, x.right = s.layBranch(1, x.bd, x.fh), s.layBranch(1, x.k, x.mpr)
	x.root = s.layBranch(2, x.left, x.right)
	return x
}

// around are keys at each place of a map: its own, and those just ahead of and behind them.
func around(pairs []api.Pair) []string {
	out := []string{"\x00", "\xff", repeated(0xff, 64)}
	for _, p := range pairs {
		k := p.Key
		out = append(out, k)
		if len(k) < 64 {
			out = append(out, k+"\x00")
		}
		if ahead := k[:len(k)-1]; ahead != "" {
			out = append(out, ahead)
		}
		if last := k[len(k)-1]; last > 0 {
			out = append(out, k[:len(k)-1]+string([]byte{last - 1}))
		}
	}
	return out
}
