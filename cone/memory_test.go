package cone_test

import (
	"slices"
	"sync"
	"testing"
	"unsafe"

	"tussock/cone"
)

// lender hands out texts that their owner changes afterwards all the same.
type lender struct{ lent [][]byte }

func (l *lender) lend(s string) string {
	b := []byte(s)
	l.lent = append(l.lent, b)
	return unsafe.String(unsafe.SliceData(b), len(b))
}

// list is a list of lent texts, with spare room that is not its own.
func (l *lender) list(dirs ...string) []string {
	var out []string
	for _, x := range dirs {
		out = append(out, l.lend(x))
	}
	return append(out, "spare", "z/spare")[:len(dirs)]
}

// takeBack writes over all that was lent.
func (l *lender) takeBack() {
	for _, b := range l.lent {
		for i := range b {
			b[i] = '!'
		}
	}
	l.lent = nil
}

// R3: what was handed in is neither written into, nor its spare room, nor kept.
func TestNothingIsKept(t *testing.T) {
	for _, dirs := range [][]string{{"b", "a/c", "a/c/d", "b"}, {"b", "a"}, {""}, {"a"}, numbered(64), append(numbered(70), "d"), append(numbered(70), "/")} {
		var l lender
		in := l.list(dirs...)
		was := slices.Clone(in[:cap(in)])
		form, e := cone.Of(in...)
		text, e2 := cone.Show(in)
		if !slices.Equal(in[:cap(in)], was) {
			t.Errorf("%s: what was handed in is not what it was", heads(dirs))
		}
		l.takeBack()
		clear(in[:cap(in)])
		if want, wantE := plainOf(dirs...); !slices.Equal(form, want) || e != wantE {
			t.Errorf("Of: %s, %d; want %s, %d", heads(form), e, heads(want), wantE)
		}
		if want, wantE := plainShow(dirs...); text != want || e2 != wantE {
			t.Errorf("Show: %q, %d; want %q, %d", head(text), e2, head(want), wantE)
		}
	}
}

// R3: nor is anything of a profile's text.
func TestNothingOfTextIsKept(t *testing.T) {
	for _, text := range []string{"# mine\na/c\n\nb", "a", "*", "b\na\na/b\n", "a\nb//c"} {
		var l lender
		form, at, e := cone.Parse(l.lend(text))
		l.takeBack()
		if want, wantAt, wantE := plainParse(text); !slices.Equal(form, want) || at != wantAt || e != wantE {
			t.Errorf("Parse(%q): %s, %d, %d; want %s, %d, %d", text, heads(form), at, e, heads(want), wantAt, wantE)
		}
	}
}

// R3: Has and Dir write into nothing.
func TestAskedIsNotChanged(t *testing.T) {
	var l lender
	in := l.list("b", "a/c", "a//b", "a", "")
	was := slices.Clone(in[:cap(in)])
	for _, p := range edges() {
		cone.Has(in, p)
		cone.Dir(in, p)
	}
	if !slices.Equal(in[:cap(in)], was) {
		t.Errorf("%s; want %s", heads(in[:cap(in)]), heads(was))
	}
	l.takeBack()
	wantDir(t, []string{"a/c"}, "a/c", 2)
}

// R3: answers are the caller's alone, their spare room too, and those of two calls share nothing.
func TestAnswersAreTheCallers(t *testing.T) {
	dirs := []string{"b", "a/c", "a/c/d", "c"}
	one, _ := cone.Of(dirs...)
	two, _ := cone.Of(dirs...)
	three, _, _ := cone.Parse("c\nb\na/c\n")
	four, _, _ := cone.Parse("c\nb\na/c\n")
	clear(two[:cap(two)])
	clear(four[:cap(four)])
	if want := []string{"a/c", "b", "c"}; !slices.Equal(one, want) || !slices.Equal(three, want) {
		t.Errorf("%s, %s", heads(one), heads(three))
	}
	clear(one[:cap(one)])
	clear(three[:cap(three)])
	wantForm(t, dirs, "a/c", "b", "c")
	wantRead(t, "c\nb\na/c\n", "a/c", "b", "c")
}

// R4: what is answered hangs on the arguments alone, whatever was asked ahead, and by whom else meanwhile.
func TestNothingIsRemembered(t *testing.T) {
	var all sync.WaitGroup
	for seed := range int64(8) {
		all.Go(func() {
			r := newDraw(seed)
			for range 300 {
				wantAll(t, r.list(r.Intn(6), r.path), r.path(), r.path())
			}
		})
	}
	all.Wait()
}
