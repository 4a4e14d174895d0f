package cone_test

import (
	"slices"
	"strings"
	"testing"
)

// P18.3: the chapter's examples.
func TestHasAndDirExamples(t *testing.T) {
	ac := []string{"a/c"}
	wantHas(t, ac, "x", true)
	wantHas(t, ac, "a/x", true)
	wantHas(t, ac, "a/c/d/x", true)
	wantHas(t, ac, "a/b/x", false)
	wantDir(t, ac, "", 1)
	wantDir(t, ac, "a", 1)
	wantDir(t, ac, "a/c/d", 2)
	wantDir(t, ac, "a/b", 0)
}

// P18.3: the root is no file, whatever the cone, and a directory of which at least something is here.
func TestRoot(t *testing.T) {
	for _, dirs := range [][]string{nil, {}, {"a"}, {"a/b/c"}, {"/"}, {"a//b", "\x00"}, numbered(1000), {copies("a", 16)}} {
		wantHas(t, dirs, "", false)
		wantDir(t, dirs, "", 1)
	}
	for _, dirs := range [][]string{{""}, {"a", ""}, {"", "/"}, {"/", ""}} {
		wantHas(t, dirs, "", false)
		wantDir(t, dirs, "", 2)
	}
}

// P18.3: the files right in the root are in each cone; of its directories some are not.
func TestRightInTheRoot(t *testing.T) {
	for _, dirs := range [][]string{nil, {"a"}, {"a/b"}, {"/"}, {""}, {"b", "b/c"}} {
		for _, p := range []string{"x", "a", "b", "*", "#", "\n", " ", "...", "\xFF"} {
			wantHas(t, dirs, p, true)
		}
	}
	wantDir(t, nil, "a", 0)
	wantDir(t, []string{"a/b"}, "b", 0)
	wantDir(t, []string{"a/b"}, "ab", 0)
}

// P18.3: no directories: nothing but what stands right in the root.
func TestEmptyCone(t *testing.T) {
	for _, p := range []string{"a/x", "a/b/x", copies("a", 16)} {
		wantHas(t, nil, p, false)
		wantHas(t, []string{}, p, false)
		wantDir(t, nil, p, 0)
	}
}

// P18.3: the empty path among the directories: all is here.
func TestWholeCone(t *testing.T) {
	for _, dirs := range [][]string{{""}, {"", ""}, {"a", ""}, {"", "b/c"}, {"//", ""}} {
		for _, p := range []string{"x", "a/x", "a/b/x", copies("a", 16), "\n/#"} {
			wantHas(t, dirs, p, true)
			wantDir(t, dirs, p, 2)
		}
	}
}

// P18.3: right in the directories above the cone's, at any depth in it, beside it.
func TestAboveInAndBeside(t *testing.T) {
	for n := range 16 {
		parts := slices.Repeat([]string{"a"}, n+1)
		dirs := []string{strings.Join(parts, "/")}
		for m := range 17 {
			p := copies("a", m)
			wantHas(t, dirs, p, m > 0)
			wantDir(t, dirs, p, min(2, 1+max(0, m-n)))
			if m < 16 {
				beside := strings.TrimPrefix(p+"/b", "/")
				wantHas(t, dirs, beside, true)
				wantDir(t, dirs, beside, 2*min(1, max(0, m-n)))
			}
			if m < 15 {
				far := strings.TrimPrefix(p+"/b/c", "/")
				wantHas(t, dirs, far, m > n)
				wantDir(t, dirs, far, 2*min(1, max(0, m-n)))
			}
		}
	}
}

// P18.3: a directory of the cone, taken as a file, stands in one above it.
func TestConesOwn(t *testing.T) {
	dirs := []string{"a/b", "c", copies("n", 16)}
	for _, p := range dirs {
		wantHas(t, dirs, p, true)
		wantDir(t, dirs, p, 2)
	}
	wantHas(t, dirs, copies("n", 15)+"/m", true)
	wantDir(t, dirs, copies("n", 15)+"/m", 0)
}

// P18.3: names that begin alike lie beside each other.
func TestHasAlike(t *testing.T) {
	for _, x := range []string{"a-", "ab", "a.", "a\x01", "a\xFF", "A", "aa", "a-b"} {
		wantDir(t, []string{"a"}, x, 0)
		wantHas(t, []string{"a"}, x+"/f", false)
		wantDir(t, []string{x}, "a", 0)
		wantHas(t, []string{x}, "a/f", false)
		wantDir(t, []string{"b/" + x}, "b/a", 0)
		wantHas(t, []string{"b/a"}, "b/"+x+"/f", false)
		wantDir(t, []string{"a/c"}, x+"/c", 0)
		wantHas(t, []string{x + "/c"}, "a/f", false)
	}
}

// P18.3: a text that is no path is no file and no directory, whatever the cone.
func TestHasWrongPath(t *testing.T) {
	for _, p := range wrongTexts() {
		for _, dirs := range [][]string{nil, {""}, {"a"}, {"a/b"}, {p}, {p, ""}, {"n"}, {copies("a", 16)}, {".", "..", "/"}} {
			wantHas(t, dirs, p, false)
			wantDir(t, dirs, p, 0)
		}
	}
}

// P18.3: a text in the cone that is no path counts for nothing, alone, ahead of others and behind them.
func TestHasWrongInCone(t *testing.T) {
	for _, x := range wrongTexts() {
		for _, dirs := range [][]string{{x}, {x, x}, {x, "b/c"}, {"b/c", x}} {
			wantHas(t, dirs, "a/x", false)
			wantHas(t, dirs, "a/b/x", false)
			wantHas(t, dirs, "x", true)
			wantDir(t, dirs, "a", 0)
			wantDir(t, dirs, "a/b", 0)
			wantDir(t, dirs, "n", 0)
			wantDir(t, dirs, "", 1)
			wantDir(t, dirs, copies("a", 16), 0)
			wantHas(t, dirs, "b/c/d", len(dirs) == 2 && dirs[0] != dirs[1])
			wantBoth(t, dirs, "b/x")
		}
		wantHas(t, []string{x, "a/b"}, "a/b/x", true)
		wantDir(t, []string{x, "a/b"}, "a", 1)
		wantDir(t, []string{"a/b", x}, "a/b/c", 2)
	}
	wantDir(t, []string{"a/b/"}, "a/b", 0)
	wantDir(t, []string{"a/b/"}, "a", 0)
	wantDir(t, []string{"a/b//c"}, "a/b", 0)
	wantDir(t, []string{"a/./b"}, "a", 0)
	wantHas(t, []string{"/a"}, "a/x", false)
	wantDir(t, []string{copies("a", 17)}, "a", 0)
}

// P18.3: a cone in no one form: the most that any of its directories says, whichever comes first; more than 64 of them count.
func TestHasNoOneForm(t *testing.T) {
	for _, dirs := range [][]string{{"a/b/c", "a/b"}, {"a/b", "a/b/c"}, {"b", "a/b", "a/b", "a/b/c/d"}, {"a/b/c/d", "a/b"}} {
		wantDir(t, dirs, "a/b/c", 2)
		wantDir(t, dirs, "a/b/x", 2)
		wantDir(t, dirs, "a", 1)
		wantHas(t, dirs, "a/b/x/y", true)
		wantHas(t, dirs, "a/x/y", false)
	}
	many := append(numbered(1000), "a/b")
	wantDir(t, many, "d/1999", 2)
	wantDir(t, many, "d", 1)
	wantDir(t, many, "a/b/c", 2)
	wantDir(t, many, "e", 0)
	wantHas(t, many, "d/1999/x", true)
	wantHas(t, many, "d/2000/x", false)
}

// P18.3: all files and directories of a small tree, in all cones of at most three of its directories.
func TestHasAllCones(t *testing.T) {
	paths := []string{"", "a", "b", "a-", "a/a", "a/b", "a/a/a", "a/a/b", "a/a-/a", "a/b/a", "b/a", "b/a/a/a", "a-/a", "a//a", "."}
	for _, p := range paths {
		wantBoth(t, nil, p)
		for _, x := range paths {
			wantBoth(t, []string{x}, p)
			for _, y := range paths {
				wantBoth(t, []string{x, y}, p)
				for _, z := range paths {
					wantBoth(t, []string{x, y, z}, p)
				}
			}
		}
	}
}
