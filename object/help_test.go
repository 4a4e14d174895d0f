package object_test

import (
	"crypto/sha256"
	"math/big"
	"reflect"
	"strings"
	"testing"

	"tussock/api"
	"tussock/object"
)

// A thing is what an object says: a chunk, an api.Fan, a leaf, an api.Branch or an api.Commit.
type thing any

type (
	chunk string
	leaf  []api.Pair
)

const marks = "CFLBK"

// id is one of 256.
func id(c byte) string { return strings.Repeat(string([]byte{c}), 32) }

// sized is a text of so many bytes.
func sized(n int) string { return strings.Repeat("s", n) }

// makeThing makes the object of a thing.
func makeThing(x thing) (api.Object, api.Errno) {
	switch x := x.(type) {
	case chunk:
		return object.Chunk(string(x))
	case api.Fan:
		return object.Fan(x)
	case leaf:
		return object.Leaf(x...)
	case api.Branch:
		return object.Branch(x)
	}
	return object.Commit(x.(api.Commit))
}

// takeThing reads bytes as those of the thing that has the mark.
func takeThing(mark byte, b string) (thing, api.Errno) {
	switch mark {
	case 'C':
		s, e := object.TakeChunk(b)
		return chunk(s), e
	case 'F':
		f, e := object.TakeFan(b)
		return f, e
	case 'L':
		pairs, e := object.TakeLeaf(b)
		return leaf(pairs), e
	case 'B':
		x, e := object.TakeBranch(b)
		return x, e
	}
	c, e := object.TakeCommit(b)
	return c, e
}

func markOf(x thing) byte {
	switch x.(type) {
	case chunk:
		return 'C'
	case api.Fan:
		return 'F'
	case leaf:
		return 'L'
	case api.Branch:
		return 'B'
	}
	return 'K'
}

// same holds two things against each other: nil and empty lists are one.
func same(a, b thing) bool { return reflect.DeepEqual(bare(a), bare(b)) }

func bare(x thing) thing {
	switch x := x.(type) {
	case api.Fan:
		if len(x.Kids) == 0 {
			x.Kids = nil
		}
		return x
	case leaf:
		if len(x) == 0 {
			return leaf(nil)
		}
	case api.Branch:
		if len(x.Kids) == 0 {
			x.Kids = nil
		}
		return x
	case api.Commit:
		if len(x.Parents) == 0 {
			x.Parents = nil
		}
		return x
	}
	return x
}

// none is the thing without anything that must stand beside an error.
func none(mark byte) thing {
	switch mark {
	case 'C':
		return chunk("")
	case 'F':
		return api.Fan{}
	case 'L':
		return leaf(nil)
	case 'B':
		return api.Branch{}
	}
	return api.Commit{}
}

// wantRight asks that a thing is made, with the model's bytes and their sum, and read again as it was.
func wantRight(t *testing.T, what string, x thing) string {
	t.Helper()
	o, e := makeThing(x)
	want := plainBytes(x)
	sum := sha256.Sum256([]byte(want))
	if e != api.OK || o.Bytes != want || o.Id != string(sum[:]) {
		t.Errorf("%s: %d, % X of %X; want % X", what, e, head(o.Bytes), o.Id, head(want))
	}
	wantTaken(t, what, want, x)
	return want
}

// wantWrong asks that a thing is not made, and that its bytes, as if it were right, are nobody's.
func wantWrong(t *testing.T, what string, x thing) {
	t.Helper()
	if o, e := makeThing(x); e != api.ErrObjectForm || o != (api.Object{}) {
		t.Errorf("%s: %d, % X; want ErrObjectForm", what, e, head(o.Bytes))
	}
	if b := plainBytes(x); !plainReads(markOf(x), b) { // an id of another size may still make bytes that are right
		wantNotTaken(t, what, markOf(x), b)
	}
}

func wantTaken(t *testing.T, what, b string, x thing) {
	t.Helper()
	if y, e := takeThing(markOf(x), b); e != api.OK || !same(x, y) {
		t.Errorf("%s: % X taken: %d, %v; want %v", what, head(b), e, y, x)
	}
}

func wantNotTaken(t *testing.T, what string, mark byte, b string) {
	t.Helper()
	if y, e := takeThing(mark, b); e != api.ErrObjectByte || !same(y, none(mark)) {
		t.Errorf("%s: % X taken as %c: %d, %v; want ErrObjectByte", what, head(b), mark, e, y)
	}
}

func wantRefs(t *testing.T, what, b string, want ...string) {
	t.Helper()
	got, e := object.Refs(b)
	if e != api.OK || strings.Join(got, "") != strings.Join(want, "") || len(got) != len(want) {
		t.Errorf("%s: Refs: %d, %d ids, %X ..; want %d, %X ..", what, e, len(got), head(strings.Join(got, "")), len(want), head(strings.Join(want, "")))
	}
}

func wantNoRefs(t *testing.T, what, b string) {
	t.Helper()
	if got, e := object.Refs(b); e != api.ErrObjectByte || len(got) != 0 {
		t.Errorf("%s: Refs(% X): %d, %X; want ErrObjectByte", what, head(b), e, got)
	}
}

// The model follows the chapter's table, row by row.

// plainNumber follows chapter 1's words, in numbers without an end.
func plainNumber(n int64) string {
	u := new(big.Int).Mul(big.NewInt(n), big.NewInt(2))
	if n < 0 {
		u.Neg(u).Sub(u, big.NewInt(1))
	}
	var b []byte
	low := new(big.Int)
	for u.Cmp(big.NewInt(128)) >= 0 {
		u.DivMod(u, big.NewInt(128), low)
		b = append(b, byte(low.Int64()+128))
	}
	return string(append(b, byte(u.Int64())))
}

func plainText(s string) string { return plainNumber(int64(len(s))) + s }

func plainBytes(x thing) string {
	b := string([]byte{markOf(x)})
	switch x := x.(type) {
	case chunk:
		b += string(x)
	case api.Fan:
		b += plainNumber(int64(x.Level)) + plainNumber(int64(len(x.Kids)))
		for _, k := range x.Kids {
			b += k.Id + plainNumber(k.Size)
		}
	case leaf:
		b += plainNumber(int64(len(x)))
		for _, p := range x {
			b += plainText(p.Key) + plainText(p.Val)
		}
	case api.Branch:
		b += plainNumber(int64(x.Level)) + plainNumber(int64(len(x.Kids)))
		for _, k := range x.Kids {
			b += plainText(k.Last) + k.Id + plainNumber(k.Many)
		}
	case api.Commit:
		b += x.Tree + plainNumber(int64(len(x.Parents))) + strings.Join(x.Parents, "")
		b += plainText(x.Who) + plainNumber(x.Time) + plainText(x.Note)
	}
	return b
}

func plainRight(x thing) bool {
	switch x := x.(type) {
	case chunk:
		return len(x) <= 1024
	case api.Fan:
		return fanRight(x)
	case leaf:
		return leafRight(x)
	case api.Branch:
		return branchRight(x)
	}
	return commitRight(x.(api.Commit))
}

func fanRight(f api.Fan) bool {
	sum := new(big.Int)
	for _, k := range f.Kids {
		sum.Add(sum, big.NewInt(k.Size))
		if len(k.Id) != 32 || k.Size < 1 {
			return false
		}
	}
	return 1 <= f.Level && f.Level <= 20 && 1 <= len(f.Kids) && len(f.Kids) <= 32 && sum.Cmp(big.NewInt(262144)) <= 0
}

func leafRight(pairs leaf) bool {
	last := ""
	for _, p := range pairs {
		if p.Key <= last || len(p.Key) > 64 || len(p.Val) > 128 { // no key stands ahead of the empty one
			return false
		}
		last = p.Key
	}
	return len(pairs) <= 64
}

func branchRight(b api.Branch) bool {
	sum, last := new(big.Int), ""
	for _, k := range b.Kids {
		sum.Add(sum, big.NewInt(k.Many))
		if k.Last <= last || len(k.Last) > 64 || len(k.Id) != 32 || k.Many < 1 {
			return false
		}
		last = k.Last
	}
	return 1 <= b.Level && b.Level <= 20 && 1 <= len(b.Kids) && len(b.Kids) <= 64 && sum.Cmp(big.NewInt(4096)) <= 0
}

func commitRight(c api.Commit) bool {
	seen := map[string]bool{}
	for _, p := range c.Parents {
		if seen[p] || len(p) != 32 {
			return false
		}
		seen[p] = true
	}
	return len(c.Tree) == 32 && len(c.Parents) <= 8 && len(c.Who) <= 64 && len(c.Note) <= 1024 && 0 <= c.Time && c.Time <= 1<<62
}

// loose reads numbers in any form and texts of any length: what it says counts only if that, written, has the same bytes.
type loose struct{ rest string }

func (l *loose) bytes(n int64) string {
	n = min(max(n, 0), int64(len(l.rest)))
	s := l.rest[:n]
	l.rest = l.rest[n:]
	return s
}

func (l *loose) number() int64 {
	u, shift := uint64(0), 0
	for {
		c := l.bytes(1)
		if c == "" || c[0] < 128 {
			if c != "" {
				u |= uint64(c[0]) << shift
			}
			break
		}
		u |= uint64(c[0]-128) << shift
		shift += 7
	}
	if u%2 == 1 {
		return -int64(u/2) - 1
	}
	return int64(u / 2)
}

func (l *loose) text() string { return l.bytes(l.number()) }

// times says how often something is read: never so often that it takes long.
func (l *loose) times() int { return int(min(max(l.number(), 0), 100)) }

// plainTake is the right thing of which b are the bytes, if there is one.
func plainTake(mark byte, b string) (thing, bool) {
	l := &loose{b}
	if l.bytes(1) != string([]byte{mark}) {
		return none(mark), false
	}
	x := looseThing(mark, l)
	if !plainRight(x) || plainBytes(x) != b {
		return none(mark), false
	}
	return x, true
}

func looseThing(mark byte, l *loose) thing {
	switch mark {
	case 'C':
		return chunk(l.rest)
	case 'F':
		f := api.Fan{Level: int(l.number())}
		for range l.times() {
			id := l.bytes(32)
			f.Kids = append(f.Kids, api.Part{Id: id, Size: l.number()})
		}
		return f
	case 'L':
		var pairs leaf
		for range l.times() {
			key := l.text()
			pairs = append(pairs, api.Pair{Key: key, Val: l.text()})
		}
		return pairs
	case 'B':
		b := api.Branch{Level: int(l.number())}
		for range l.times() {
			last := l.text()
			id := l.bytes(32)
			b.Kids = append(b.Kids, api.Link{Last: last, Id: id, Many: l.number()})
		}
		return b
	}
	c := api.Commit{Tree: l.bytes(32)}
	for range l.times() {
		c.Parents = append(c.Parents, l.bytes(32))
	}
	c.Who, c.Time, c.Note = l.text(), l.number(), l.text()
	return c
}

func plainReads(mark byte, b string) bool {
	_, ok := plainTake(mark, b)
	return ok
}

// plainValue is an entry's value, whether it is right or not.
func plainValue(e api.Entry) string {
	return plainNumber(int64(e.Kind)) + e.Id + plainNumber(e.Size)
}

func entryRight(e api.Entry) bool {
	name := 1 <= len(e.Name) && len(e.Name) <= 64 && !strings.ContainsAny(e.Name, "/\x00") && e.Name != "." && e.Name != ".."
	file := e.Kind == 1 && 0 <= e.Size && e.Size <= 262144
	dir := e.Kind == 2 && 1 <= e.Size && e.Size <= 4096
	return name && len(e.Id) == 32 && (file || dir)
}

func plainEntry(name, val string) (api.Entry, bool) {
	l := &loose{val}
	kind := int(l.number())
	id := l.bytes(32)
	e := api.Entry{Name: name, Kind: kind, Id: id, Size: l.number()}
	if !entryRight(e) || plainValue(e) != val {
		return api.Entry{}, false
	}
	return e, true
}

// plainRefs are the ids that the object's bytes name.
func plainRefs(b string) ([]string, bool) {
	if b == "" {
		return nil, false
	}
	x, ok := plainTake(b[0], b)
	if !ok || !strings.ContainsRune(marks, rune(b[0])) {
		return nil, false
	}
	var all []string
	switch x := x.(type) {
	case api.Fan:
		for _, k := range x.Kids {
			all = append(all, k.Id)
		}
	case leaf:
		for _, p := range x {
			if e, ok := plainEntry(p.Key, p.Val); ok {
				all = append(all, e.Id)
			}
		}
	case api.Branch:
		for _, k := range x.Kids {
			all = append(all, k.Id)
		}
	case api.Commit:
		all = append(append(all, x.Tree), x.Parents...)
	}
	return onlyFirst(all), true
}

func onlyFirst(ids []string) []string {
	var out []string
	seen := map[string]bool{}
	for _, id := range ids {
		if !seen[id] {
			out = append(out, id)
		}
		seen[id] = true
	}
	return out
}

// head keeps what a failed test tells short.
func head(s string) string { return s[:min(len(s), 40)] }
