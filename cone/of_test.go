package cone_test

import (
	"slices"
	"strings"
	"testing"

	"tussock/api"
)

// P18.1: the chapter's examples.
func TestOfExamples(t *testing.T) {
	wantForm(t, []string{"b", "a/c", "a/c/d", "b"}, "a/c", "b")
	wantForm(t, nil)
	wantForm(t, []string{}, []string{}...)
	wantForm(t, []string{"a", ""}, "")
}

// P18.1: one directory, one many times, and several of which each is there more than once.
func TestOfOnce(t *testing.T) {
	for _, x := range []string{"", "a", "a/b", "*", "#", "\n", copies("a", 16), copies(strings.Repeat("n", 64), 16)} {
		wantForm(t, []string{x}, x)
		wantForm(t, []string{x, x}, x)
		wantForm(t, slices.Repeat([]string{x}, 5000), x)
	}
	wantForm(t, []string{"b", "a", "b", "a", "c", "a"}, "a", "b", "c")
}

// P18.1: the empty path has all others within, wherever it stands among them.
func TestOfEmptyPath(t *testing.T) {
	wantForm(t, []string{"", "a"}, "")
	wantForm(t, []string{"a", "", "b"}, "")
	wantForm(t, []string{"", ""}, "")
	wantForm(t, append(numbered(100), ""), "")
	wantForm(t, append([]string{""}, numbered(100)...), "")
}

// P18.1: a directory within another one is not told, whether it comes ahead of that or behind, right in it or many levels below.
func TestOfWithin(t *testing.T) {
	deep := copies("a", 16)
	for _, x := range [][]string{{"a", "a/b"}, {"a", "a/b/c/d"}, {"a", deep}, {copies("a", 15), deep}, {"a", "a/a"}, {"a/b", "a/b/a/b"}} {
		wantForm(t, []string{x[0], x[1]}, x[0])
		wantForm(t, []string{x[1], x[0]}, x[0])
		wantForm(t, []string{x[1], "b", x[0], x[1]}, x[0], "b")
	}
	wantForm(t, []string{"a/b/c", "a/b", "a/b/d", "a/c"}, "a/b", "a/c")
	wantForm(t, []string{"a/b/c", "a/b/d", "a/b", "a", "b/c", "b/c/d"}, "a", "b/c")
	wantForm(t, []string{"b", "a/b", "b/a"}, "a/b", "b")
}

// P18.1: each but the last one of a path's beginnings goes, whichever is the shortest there.
func TestOfBeginnings(t *testing.T) {
	for from := range 17 {
		var dirs []string
		for n := 16; n >= from; n-- {
			dirs = append(dirs, copies("a", n))
		}
		wantForm(t, dirs, copies("a", from))
		slices.Reverse(dirs)
		wantForm(t, dirs, copies("a", from))
	}
}

// P18.1: a name that begins another one is no directory of it; what is within a directory may stand apart from it bytewise, but not by path.Compare.
func TestOfAlike(t *testing.T) {
	dirs := alike()
	wantForm(t, dirs, dirs...)
	slices.Reverse(dirs)
	wantForm(t, dirs, alike()...)
	wantForm(t, append(dirs, "a"), append([]string{"a"}, alike()[2:]...)...)
	wantForm(t, []string{"a", "a-b", "a/b", "a.b", "a/c", "a\x01", "a-b/c"}, "a", "a\x01", "a-b", "a.b")
	wantForm(t, []string{"a/b/c", "a/b-", "a/b", "a/b\x01/x"}, "a/b", "a/b\x01/x", "a/b-")
	wantForm(t, []string{"ab", "a"}, "a", "ab")
	wantForm(t, []string{"b", "\xFF", "A", "\x01", "é"}, "\x01", "A", "b", "é", "\xFF")
}

// P18.1: a text that is no path is told, wherever it stands, and whatever the others are.
func TestOfWrong(t *testing.T) {
	for _, x := range wrongTexts() {
		wantNoForm(t, api.ErrPathForm, x)
		wantNoForm(t, api.ErrPathForm, x, x)
		wantNoForm(t, api.ErrPathForm, "a", "b", x)
		wantNoForm(t, api.ErrPathForm, x, "a", "b")
		wantNoForm(t, api.ErrPathForm, "", x)
		wantNoForm(t, api.ErrPathForm, "a", x, "a/b")
	}
}

// P18.1: of ErrPathForm and ErrConeMany the former one is told.
func TestOfWrongAndMany(t *testing.T) {
	many := numbered(65)
	wantNoForm(t, api.ErrPathForm, append(slices.Clone(many), "a//b")...)
	wantNoForm(t, api.ErrPathForm, append([]string{"/"}, many...)...)
	wantNoForm(t, api.ErrPathForm, slices.Insert(many, 30, "z\x00")...)
	wantNoForm(t, api.ErrPathForm, slices.Insert(numbered(65), 65, ".")...)
}

// P18.1: at most 64 of the one form; those that are no part of it don't count.
func TestOfMany(t *testing.T) {
	for _, n := range []int{1, 2, 62, 63, 64} {
		wantForm(t, numbered(n), numbered(n)...)
		back := numbered(n)
		slices.Reverse(back)
		wantForm(t, append(back, numbered(n)...), numbered(n)...)
	}
	for _, n := range []int{65, 66, 128, 1000} {
		wantNoForm(t, api.ErrConeMany, numbered(n)...)
		wantForm(t, append(numbered(n), "d"), "d")
		wantForm(t, append([]string{"d"}, numbered(n)...), "d")
		wantForm(t, append(numbered(n), "", "d"), "")
	}
	within := numbered(64)
	for _, x := range numbered(64) {
		within = append(within, x+"/a", x+"/b/c")
	}
	wantForm(t, within, numbered(64)...)
	wantNoForm(t, api.ErrConeMany, append(within, "e")...)
	wantNoForm(t, api.ErrConeMany, append([]string{"c"}, within...)...)
	wantForm(t, append([]string{"d/1000/a", "e", "e/f"}, numbered(64)[:63]...), append(numbered(63), "e")...)
}

// P18.1: all lists of few directories of a small tree, in any order.
func TestOfAllLists(t *testing.T) {
	dirs := []string{"", "a", "a/b", "a/b/c", "a-", "a/b-", "b", "b/a", "/"}
	for _, x := range dirs {
		for _, y := range dirs {
			for _, z := range dirs {
				for _, w := range dirs {
					wantOf(t, x, y, z, w)
				}
			}
		}
	}
}
