package path_test

import (
	"slices"
	"strings"
	"testing"

	"tussock/api"
	"tussock/path"
)

// isName, partsOf and order follow the chapter's words by other means than the program.
func isName(s string) bool {
	for _, c := range []byte(s) {
		if c == '/' || c == 0 {
			return false
		}
	}
	return !slices.Contains([]string{"", ".", ".."}, s) && len(s) < 65
}

func partsOf(s string) ([]string, bool) {
	if s == "" {
		return nil, true
	}
	parts := strings.Split(s, "/")
	if len(parts) > 16 || !allNames(parts) {
		return nil, false
	}
	return parts, true
}

func allNames(parts []string) bool {
	return !slices.ContainsFunc(parts, func(s string) bool { return !isName(s) })
}

// order moves the slash ahead of all other bytes, so that texts stand as they do bytewise.
func order(a, b string) int {
	return strings.Compare(slashFirst(a), slashFirst(b))
}

func slashFirst(s string) string {
	b := []byte(s)
	for i, c := range b {
		switch {
		case c == '/':
			b[i] = 0
		case c < '/':
			b[i]++
		}
	}
	return string(b)
}

// shortTexts are all of at most so many bytes, of those that the chapter speaks of and of some that stand around them.
func shortTexts(most int) []string {
	out := []string{""}
	last := out
	for range most {
		var next []string
		for _, s := range last {
			for _, c := range []string{"/", ".", "\x00", "a", "\x80"} {
				next = append(next, s+c)
			}
		}
		out = append(out, next...)
		last = next
	}
	return out
}

// wrongNames are texts of which none is a name.
func wrongNames() []string {
	return []string{"", ".", "..", "/", "a/b", "/a", "a/", "\x00", "a\x00", "\x00a", "a\x00b",
		strings.Repeat("a", 65), strings.Repeat("\x80", 65), strings.Repeat("é", 33), strings.Repeat(".", 65), strings.Repeat("a", 100000)}
}

// wrongPaths are texts of which none is a path.
func wrongPaths() []string {
	out := []string{"/", "//", "/a", "//a", "a/", "a//", "a//b", "a/b/", "a///b", "./a", "a/.", "a/./b", "../a", "a/..", "a/../b", "/.", "./", "a/b\x00", "\x00/a",
		copies("a", 17), copies("a", 18), copies("a", 100000), strings.Repeat("/", 100000), copies("a", 16) + "/", "/" + copies("a", 16), "/" + copies("a", 15), copies("a", 15) + "/"}
	for _, s := range wrongNames() {
		if s != "" && s != "a/b" {
			out = append(out, s, "b/"+s, s+"/b")
		}
	}
	return out
}

// copies is a name, so many times, with slashes between.
func copies(name string, n int) string {
	return strings.TrimSuffix(strings.Repeat(name+"/", n), "/")
}

// rightPaths are the edges of what paths may be.
func rightPaths() []string {
	long := strings.Repeat("n", 64)
	return []string{"", "a", "b", "ab", "a/b", "a/b.c", "a/ab", "ab/a", "a/b/c", "a/a/a", "a-b", "a-b/c", "a.b", "a0", "a/-", "...", ".../....", ".a/a.", "..a/a..",
		long, long + "/a", "a/" + long, copies(long, 16), copies("a", 15), copies("a", 16), copies("\xFF", 16),
		"\x80", "a/\x80\xFF", "\xFF/a", "é/世", "\x01/\x7F", "a b/\n", "\\", "C:", "*"}
}

func wantParts(t *testing.T, s string, parts ...string) {
	t.Helper()
	if got, e := path.Parse(s); !slices.Equal(got, parts) || e != api.OK {
		t.Errorf("Parse(%q): %q, %d; want %q, OK", head(s), got, e, parts)
	}
}

func wantNoParts(t *testing.T, s string) {
	t.Helper()
	if got, e := path.Parse(s); len(got) != 0 || e != api.ErrPathForm {
		t.Errorf("Parse(%q): %q, %d; want none, ErrPathForm", head(s), got, e)
	}
}

func wantPath(t *testing.T, s string, parts ...string) {
	t.Helper()
	if got, e := path.Join(parts...); got != s || e != api.OK {
		t.Errorf("Join(%q): %q, %d; want %q, OK", parts, head(got), e, head(s))
	}
}

func wantNoPath(t *testing.T, parts ...string) {
	t.Helper()
	if got, e := path.Join(parts...); got != "" || e != api.ErrPathForm {
		t.Errorf("Join of %d parts: %q, %d; want empty, ErrPathForm", len(parts), head(got), e)
	}
}

func wantSplit(t *testing.T, s, dir, last string) {
	t.Helper()
	if d, n, e := path.Split(s); d != dir || n != last || e != api.OK {
		t.Errorf("Split(%q): %q, %q, %d; want %q, %q, OK", head(s), head(d), head(n), e, dir, last)
	}
}

func wantNoSplit(t *testing.T, s string) {
	t.Helper()
	if d, n, e := path.Split(s); d != "" || n != "" || e != api.ErrPathForm {
		t.Errorf("Split(%q): %q, %q, %d; want empty, empty, ErrPathForm", head(s), head(d), head(n), e)
	}
}

func wantWithin(t *testing.T, dir, s string, want bool) {
	t.Helper()
	if got := path.Within(dir, s); got != want {
		t.Errorf("Within(%q, %q): %v; want %v", head(dir), head(s), got, want)
	}
}

// wantOrder asks both ways round.
func wantOrder(t *testing.T, a, b string, want int) {
	t.Helper()
	if got := path.Compare(a, b); got != want {
		t.Errorf("Compare(%q, %q): %d; want %d", head(a), head(b), got, want)
	}
	if got := path.Compare(b, a); got != -want {
		t.Errorf("Compare(%q, %q): %d; want %d", head(b), head(a), got, -want)
	}
}

// head keeps what a failed test tells short.
func head(s string) string {
	return s[:min(len(s), 80)]
}
