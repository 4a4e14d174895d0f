package object_test

import (
	"testing"

	"tussock/api"
)

// P8.4: the chapter's examples, and an object of each kind that names nothing, or one.
func TestRefsExamples(t *testing.T) {
	wantRefs(t, "the leaf without pairs", "L\x00")
	wantRefs(t, "a chunk", "Cabc")
	wantRefs(t, "the chunk without data", "C")
	wantRefs(t, "a chunk that looks like a fan", "C"+plainBytes(fan(1, 1)))
	wantRefs(t, "a fan", "F\x02\x02"+id('a')+"\n", id('a'))
	wantRefs(t, "a branch", plainBytes(branch(3, 1)), id(0))
	wantRefs(t, "a commit", plainBytes(api.Commit{Tree: id(4), Who: id(5), Note: id(6)}), id(4))
}

// P8.4: ids stand in the order of their places, each once, where it stands first.
func TestRefsOrder(t *testing.T) {
	a, b, c := id('a'), id('b'), id('c')
	f, x := fan(1, 6), branch(1, 6)
	for i, s := range []string{c, a, c, b, a, c} {
		f.Kids[i].Id, x.Kids[i].Id = s, s
	}
	wantRefs(t, "a fan", plainBytes(f), c, a, b)
	wantRefs(t, "a branch", plainBytes(x), c, a, b)
	wantRefs(t, "a commit", plainBytes(api.Commit{Tree: c, Parents: []string{b, a}}), c, b, a)
	wantRefs(t, "a commit whose Tree is a Parent", plainBytes(api.Commit{Tree: c, Parents: []string{b, c, a}}), c, b, a)
	near := a[:31] + "x"
	wantRefs(t, "ids that differ in their last byte", plainBytes(api.Commit{Tree: a, Parents: []string{near}}), a, near)
}

// P8.4: as many ids as an object can name.
func TestRefsOfTheGreatest(t *testing.T) {
	var ids []string
	l := leaf{}
	for i := range 64 {
		ids = append(ids, id(byte(i)))
		l = append(l, api.Pair{Key: "k" + string([]byte{byte(i + 128)}), Val: plainValue(api.Entry{Kind: api.KFile, Id: id(byte(i))})})
	}
	wantRefs(t, "a fan", plainBytes(fan(1, 32)), ids[:32]...)
	wantRefs(t, "a branch", plainBytes(branch(1, 64)), ids...)
	wantRefs(t, "a leaf", plainBytes(l), ids...)
	wantRefs(t, "a commit", plainBytes(api.Commit{Tree: ids[0], Parents: ids[1:9]}), ids[:9]...)
}

// P8.4: of a leaf those pairs count that are entries: by their values, and by their keys.
func TestRefsOfLeaves(t *testing.T) {
	file := plainValue(api.Entry{Kind: api.KFile, Id: id('f'), Size: 3})
	dir := plainValue(api.Entry{Kind: api.KDir, Id: id('d'), Size: 3})
	for _, val := range []string{
		"", "v", id('x'), file[:33], file + "\x00", "\x00" + file[1:], "\x06" + file[1:], "\x82\x00" + file[1:],
		plainValue(api.Entry{Kind: api.KDir, Id: id('x')}), plainValue(api.Entry{Kind: api.KDir, Id: id('x'), Size: 4097}),
		plainValue(api.Entry{Kind: api.KFile, Id: id('x'), Size: -1}), plainValue(api.Entry{Kind: api.KFile, Id: id('x'), Size: 262145}),
	} {
		wantRefs(t, "no entry", plainBytes(leaf{{Key: "a", Val: val}}))
		wantRefs(t, "no entry between", plainBytes(leaf{{Key: "a", Val: dir}, {Key: "b", Val: val}, {Key: "c", Val: file}}), id('d'), id('f'))
	}
	for _, key := range []string{".", "..", "/", "a/b", "\x00", "a\x00"} {
		wantRefs(t, "a key that is no name", plainBytes(leaf{{Key: key, Val: file}}))
		wantRefs(t, "a key that is no name ahead", plainBytes(leaf{{Key: key, Val: file}, {Key: "b", Val: dir}}), id('d'))
	}
	wantRefs(t, "a leaf", plainBytes(leaf{{Key: "a", Val: file}, {Key: "b", Val: dir}, {Key: "c", Val: file}}), id('f'), id('d'))
}

// P8.4: bytes that are no object's: empty, of another first byte, cut short, longer.
func TestRefsOfNoObject(t *testing.T) {
	wantNoRefs(t, "no bytes", "")
	for _, x := range some() {
		b := plainBytes(x)
		for c := range 256 {
			other := string([]byte{byte(c)}) + b[1:]
			if _, ok := plainRefs(other); !ok {
				wantNoRefs(t, "another first byte", other)
			}
		}
		if markOf(x) == 'C' {
			continue
		}
		for cut := range b {
			wantNoRefs(t, "cut short", b[:cut])
		}
		wantNoRefs(t, "one byte more", b+"\x00")
	}
	wantNoRefs(t, "a chunk that is too long", "C"+sized(1025))
	wantNoRefs(t, "a fan that is not right", plainBytes(fan(0, 1)))
	wantNoRefs(t, "a fan that is not right", plainBytes(fan(1, 33)))
	wantNoRefs(t, "a leaf that is not right", plainBytes(leaf{{Key: "b"}, {Key: "a"}}))
	wantNoRefs(t, "a branch that is not right", plainBytes(branch(21, 1)))
	wantNoRefs(t, "a commit that is not right", plainBytes(api.Commit{Tree: id(1), Parents: []string{id(2), id(2)}}))
}
