package cone_test

import (
	"fmt"
	"math/rand"
	"slices"
	"strings"
	"testing"

	"tussock/api"
	"tussock/cone"
)

func head(s string) string {
	return s[:min(len(s), 60)]
}

func heads(list []string) string {
	out := fmt.Sprintf("%d:", len(list))
	for _, s := range list[:min(len(list), 12)] {
		out += fmt.Sprintf(" %q", head(s))
	}
	return out
}

// wantForm asks Of for the one form that the test itself says, and for what the plain reckoning says.
func wantForm(t *testing.T, dirs []string, form ...string) {
	t.Helper()
	got, e := cone.Of(dirs...)
	if !slices.Equal(got, form) || e != api.OK {
		t.Errorf("Of(%s): %s, %d; want %s, OK", heads(dirs), heads(got), e, heads(form))
	}
	wantOf(t, dirs...)
}

// wantNoForm is the same with an error.
func wantNoForm(t *testing.T, want api.Errno, dirs ...string) {
	t.Helper()
	if got, e := cone.Of(dirs...); len(got) != 0 || e != want {
		t.Errorf("Of(%s): %s, %d; want none, %d", heads(dirs), heads(got), e, want)
	}
	wantOf(t, dirs...)
}

func wantOf(t *testing.T, dirs ...string) {
	t.Helper()
	want, wantE := plainOf(dirs...)
	if got, e := cone.Of(dirs...); !slices.Equal(got, want) || e != wantE {
		t.Errorf("Of(%s): %s, %d; want %s, %d", heads(dirs), heads(got), e, heads(want), wantE)
	}
}

func wantRead(t *testing.T, text string, form ...string) {
	t.Helper()
	if got, at, e := cone.Parse(text); !slices.Equal(got, form) || at != 0 || e != api.OK {
		t.Errorf("Parse(%q): %s, %d, %d; want %s, 0, OK", head(text), heads(got), at, e, heads(form))
	}
	wantParse(t, text)
}

func wantUnread(t *testing.T, text string, at int, want api.Errno) {
	t.Helper()
	if got, n, e := cone.Parse(text); len(got) != 0 || n != at || e != want {
		t.Errorf("Parse(%q): %s, %d, %d; want none, %d, %d", head(text), heads(got), n, e, at, want)
	}
	wantParse(t, text)
}

func wantParse(t *testing.T, text string) {
	t.Helper()
	want, wantAt, wantE := plainParse(text)
	if got, at, e := cone.Parse(text); !slices.Equal(got, want) || at != wantAt || e != wantE {
		t.Errorf("Parse(%q): %s, %d, %d; want %s, %d, %d", head(text), heads(got), at, e, heads(want), wantAt, wantE)
	}
}

func wantShown(t *testing.T, dirs []string, text string) {
	t.Helper()
	if got, e := cone.Show(dirs); got != text || e != api.OK {
		t.Errorf("Show(%s): %q, %d; want %q, OK", heads(dirs), head(got), e, head(text))
	}
	wantShow(t, dirs...)
}

func wantNotShown(t *testing.T, want api.Errno, dirs ...string) {
	t.Helper()
	if got, e := cone.Show(dirs); got != "" || e != want {
		t.Errorf("Show(%s): %q, %d; want empty, %d", heads(dirs), head(got), e, want)
	}
	wantShow(t, dirs...)
}

func wantShow(t *testing.T, dirs ...string) {
	t.Helper()
	want, wantE := plainShow(dirs...)
	if got, e := cone.Show(dirs); got != want || e != wantE {
		t.Errorf("Show(%s): %q, %d; want %q, %d", heads(dirs), head(got), e, head(want), wantE)
	}
}

func wantHas(t *testing.T, dirs []string, p string, want bool) {
	t.Helper()
	if got := cone.Has(dirs, p); got != want {
		t.Errorf("Has(%s, %q): %v; want %v", heads(dirs), head(p), got, want)
	}
	wantBoth(t, dirs, p)
}

func wantDir(t *testing.T, dirs []string, p string, want int) {
	t.Helper()
	if got := cone.Dir(dirs, p); got != want {
		t.Errorf("Dir(%s, %q): %d; want %d", heads(dirs), head(p), got, want)
	}
	wantBoth(t, dirs, p)
}

// wantBoth asks Has and Dir for what the plain reckoning says.
func wantBoth(t *testing.T, dirs []string, p string) {
	t.Helper()
	if got, want := cone.Has(dirs, p), plainHas(dirs, p); got != want {
		t.Errorf("Has(%s, %q): %v; want %v", heads(dirs), head(p), got, want)
	}
	if got, want := cone.Dir(dirs, p), plainDir(dirs, p); got != want {
		t.Errorf("Dir(%s, %q): %d; want %d", heads(dirs), head(p), got, want)
	}
}

// wantAll asks all calls.
func wantAll(t *testing.T, dirs []string, paths ...string) {
	t.Helper()
	wantOf(t, dirs...)
	wantShow(t, dirs...)
	wantParse(t, strings.Join(dirs, "\n"))
	for _, p := range paths {
		wantBoth(t, dirs, p)
	}
}

// copies is a name, so many times, with slashes between.
func copies(name string, n int) string {
	return strings.TrimSuffix(strings.Repeat(name+"/", n), "/")
}

// numbered are so many directories, none within another one, rising.
func numbered(n int) []string {
	var out []string
	for i := range n {
		out = append(out, fmt.Sprintf("d/%d", 1000+i))
	}
	return out
}

// wrongTexts are no paths.
func wrongTexts() []string {
	return append(shortWrong(), strings.Repeat("/", 100000), strings.Repeat("n", 100000), copies("a", 50000))
}

func shortWrong() []string {
	return []string{"/", "//", "a//b", "/a", "a/", ".", "..", "a/.", "../a", "a/../b", "\x00", "a\x00b", "a/\x00", strings.Repeat("n", 65), "a/" + strings.Repeat("n", 65),
		copies("a", 17), copies("a", 16) + "/", "/" + copies("a", 15)}
}

// alike are directories whose names begin alike, with bytes below and above that of the slash behind them, rising.
func alike() []string {
	return []string{"a/b", "a/b-c", "a\x01", "a-", "a-b", "a-b-", "a.", "a.b", "a0", "aa", "ab", "a\xFF", "b"}
}

// edges are paths of all kinds that the chapter names, right and wrong.
func edges() []string {
	long := strings.Repeat("n", 64)
	return slices.Concat(shortWrong(), alike(), []string{"", "a", "a/b/c", "a/b/c/d", "b/a", "*", "**", "*a", "a/*", "#", "#a", "a/#", "a/#/b", "\n", "a\nb", "a/\n", " ", "  a", "a b", "\r", "a\r", "\t",
		long, copies(long, 15), copies(long, 16), copies("a", 15), copies("a", 16), copies("a", 8), "\xFF/\x80", "é"})
}

// draw draws texts and lists of them.
type draw struct{ *rand.Rand }

func newDraw(seed int64) draw {
	return draw{rand.New(rand.NewSource(seed))}
}

func (r draw) one(list ...string) string {
	return list[r.Intn(len(list))]
}

// path is one of few names, so that paths often lie within one another; now and then a wrong one.
func (r draw) path() string {
	if r.Intn(40) == 0 {
		return r.one(edges()...)
	}
	var parts []string
	for range r.Intn(5) {
		parts = append(parts, r.one("a", "b", "a", "b", "a-", "ab", "a.", "*", "#", "c\nd"))
	}
	return strings.Join(parts, "/")
}

// right is one that is a path.
func (r draw) right() string {
	for {
		p := r.path()
		if _, ok := partsOf(p); ok {
			return p
		}
	}
}

func (r draw) list(n int, one func() string) []string {
	var out []string
	for range n {
		out = append(out, one())
	}
	return out
}
