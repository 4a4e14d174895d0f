package path_test

import (
	"math/rand"
	"slices"
	"strings"
	"testing"

	"tussock/path"
)

// P4.3: the chapter's examples.
func TestCompareExamples(t *testing.T) {
	wantOrder(t, "a/b", "a-b", -1)
	wantOrder(t, "a", "a/b", -1)
}

// P4.3: a text is itself.
func TestCompareEqual(t *testing.T) {
	for _, s := range slices.Concat(rightPaths(), wrongPaths(), wrongNames(), shortTexts(3)) {
		wantOrder(t, s, s, 0)
		wantOrder(t, s, string([]byte(s)), 0)
	}
}

// P4.3: a text that begins another one stands ahead of it, whatever comes behind.
func TestCompareBeginning(t *testing.T) {
	for _, s := range []string{"", "a", "a/", "/", "a/b", "\x00", "\xFF", "a//", ".", strings.Repeat("a", 1000)} {
		for c := range 256 {
			wantOrder(t, s, s+string([]byte{byte(c)}), -1)
			wantOrder(t, s, s+string([]byte{byte(c)})+"a/b", -1)
		}
	}
}

// P4.3: of all pairs of bytes, behind what is the same, whatever comes behind them.
func TestCompareBytes(t *testing.T) {
	for c := range 256 {
		for d := range 256 {
			want := order(string([]byte{byte(c)}), string([]byte{byte(d)}))
			if c == '/' && d != '/' && want != -1 || c != '/' && d != '/' && want != min(max(c-d, -1), 1) {
				t.Fatal("the test's own order", c, d, want)
			}
			for _, same := range []string{"", "a/b", "\xFF/"} {
				a, b := same+string([]byte{byte(c)}), same+string([]byte{byte(d)})
				wantOrder(t, a, b, want)
				if c != d {
					wantOrder(t, a+"zz", b, want)
					wantOrder(t, a, b+"/\x00", want)
				}
			}
		}
	}
}

// P4.3: texts that part at a slash, at the byte 00, at bytes of 128 and above.
func TestCompareEdges(t *testing.T) {
	for _, x := range [][2]string{
		{"a/z", "a-b"}, {"a/z", "a\x00b"}, {"a/", "a\x00"}, {"/", "\x00"}, {"//", "/\x00"}, {"a/z", "a.b"}, {"a/z", "a0"}, {"a/z", "aa"}, {"a/\xFF", "a\x01"}, {"a/z", "a!b"},
		{"a\x00", "a\x01"}, {"\x00\xFF", "\x01"}, {"a\x00b", "a b"}, {"a", "a\x00"}, {"\x00", "."},
		{"a\x7F", "a\x80"}, {"a\x80", "a\xFF"}, {"z", "\x80"}, {"a/\x80", "a\x80"}, {"z", "é"}, {"/\xFF", "\x80"}, {"\xC3", "é"},
		{"a/b", "b"}, {"a/b", "ab"}, {"A", "a"}, {"a/B", "a/b"}, {"a10", "a2"}, {"a/b/z", "a/b-c"}, {"a.b/c", "a0/c"}, {"a-b", "a.b"},
		{"", "/"}, {"", "\x00"}, {"", "a"}, {"/a", "a"}, {"a/", "a/a"}, {"a//b", "a/b"}, {".", ".."}, {"..", "a"}, {"/..", "a"},
	} {
		wantOrder(t, x[0], x[1], -1)
	}
	long := strings.Repeat("a/", 100000)
	wantOrder(t, long+"/", long+"\x00", -1)
	wantOrder(t, long+"a", long+"b", -1)
	wantOrder(t, long, long+"b", -1)
}

// P4.3: of all pairs of short texts, paths or not.
func TestCompareAsTheModel(t *testing.T) {
	texts := shortTexts(4)
	for _, a := range texts {
		for _, b := range texts {
			if path.Compare(a, b) != order(a, b) {
				wantOrder(t, a, b, order(a, b))
			}
		}
	}
}

// P4.3: of any three texts that stand in order the first stands ahead of the last, unless all are the same.
func TestCompareThree(t *testing.T) {
	texts := slices.Concat(shortTexts(2), rightPaths(), []string{"a-", "a/", "a\x00/", "/a/"})
	for _, a := range texts {
		for _, b := range texts {
			first := path.Compare(a, b)
			for _, c := range texts {
				second := path.Compare(b, c)
				if got := path.Compare(a, c); first <= 0 && second <= 0 && got != min(first, second) {
					t.Fatalf("%q, %q, %q: %d, %d, %d", head(a), head(b), head(c), first, second, got)
				}
			}
		}
	}
}

// P4.3: paths stand as their parts do, one by one, which stand bytewise.
func TestCompareByParts(t *testing.T) {
	var paths [][]string
	for _, s := range slices.Concat(shortTexts(5), rightPaths()) {
		if parts, ok := partsOf(s); ok {
			paths = append(paths, parts)
		}
	}
	for _, a := range paths {
		for _, b := range paths {
			s, u := strings.Join(a, "/"), strings.Join(b, "/")
			if want := slices.Compare(a, b); path.Compare(s, u) != want {
				wantOrder(t, s, u, want)
			}
		}
	}
}

// P4.3: sorted, what lies within a directory follows it in one row.
func TestCompareSorts(t *testing.T) {
	sorted := []string{"", "a", "a/b", "a/b/c", "a/b-c", "a/c", "a\x01", "a-", "a-/b", "a-b", "a.", "aa", "b", "\x80", "\xFF"}
	r := rand.New(rand.NewSource(1))
	for range 200 {
		got := slices.Clone(sorted)
		r.Shuffle(len(got), func(i, j int) { got[i], got[j] = got[j], got[i] })
		slices.SortFunc(got, path.Compare)
		if !slices.Equal(got, sorted) {
			t.Fatalf("%q", got)
		}
	}
}
