package path_test

import (
	"slices"
	"strings"
	"testing"

	"tussock/path"
)

func wantName(t *testing.T, s string, want bool) {
	t.Helper()
	if got := path.IsName(s); got != want {
		t.Errorf("IsName(%q): %v; want %v", head(s), got, want)
	}
}

// P4.1: names have 1 to 64 bytes, whatever signs these make.
func TestIsNameLengths(t *testing.T) {
	for size, want := range map[int]bool{0: false, 1: true, 2: true, 3: true, 63: true, 64: true, 65: false, 66: false, 128: false, 1 << 20: false} {
		wantName(t, strings.Repeat("a", size), want)
		wantName(t, strings.Repeat("\x80", size), want)
	}
	wantName(t, strings.Repeat("é", 32), true)
	wantName(t, strings.Repeat("é", 32)+"a", false)
	wantName(t, strings.Repeat("é", 33), false)
	wantName(t, strings.Repeat("世", 21)+"a", true)
	wantName(t, strings.Repeat("世", 64), false)
}

// P4.1: of all bytes but two names are made, wherever they stand.
func TestIsNameBytes(t *testing.T) {
	for c := range 256 {
		one := string([]byte{byte(c)})
		right := c != 0 && c != '/'
		wantName(t, one, right && c != '.')
		for _, ahead := range []string{"", "a", ".", "\xFF", strings.Repeat("a", 31)} {
			for _, behind := range []string{"a", "b.", "\x80", strings.Repeat("a", 32)} {
				wantName(t, ahead+one+behind, right)
			}
		}
		wantName(t, strings.Repeat("a", 63)+one, right)
	}
}

// P4.1: one dot and two are no names; more are, and dots beside other bytes.
func TestIsNameDots(t *testing.T) {
	wantName(t, ".", false)
	wantName(t, "..", false)
	for size := 3; size <= 64; size++ {
		wantName(t, strings.Repeat(".", size), true)
	}
	wantName(t, strings.Repeat(".", 65), false)
	for _, s := range []string{".a", "..a", "...a", "a.", "a..", "a...", "a.b", "a..b", ".a.", "..a..", ". ", " .", ".\xFF", "..\x01", "．"} {
		wantName(t, s, true)
	}
	for _, s := range []string{"./", "../", "/.", "/..", "./.", ".\x00", "..\x00", "\x00.", ".\x00.", "a/.", "a/.."} {
		wantName(t, s, false)
	}
}

// P4.1: of all short texts, and of texts that are wrong in some way.
func TestIsNameAsTheModel(t *testing.T) {
	for _, s := range slices.Concat(shortTexts(6), wrongNames(), wrongPaths(), rightPaths()) {
		wantName(t, s, isName(s))
	}
	for _, s := range wrongNames() {
		wantName(t, s, false)
	}
}

// P4.1: the chapter's examples.
func TestPartsExamples(t *testing.T) {
	wantParts(t, "a/b.c", "a", "b.c")
	wantParts(t, "")
	wantNoParts(t, "a//b")
	wantNoParts(t, "/a")
	wantNoParts(t, "a/.")
	wantPath(t, "a/b", "a", "b")
	wantPath(t, "")
	wantNoPath(t, "a/b")
}

// P4.1: a slash ahead, behind, alone, two in a row, and what else is no path.
func TestParseNoPath(t *testing.T) {
	for _, s := range wrongPaths() {
		wantNoParts(t, s)
	}
}

// P4.1: up to 16 parts, each with up to 64 bytes.
func TestPartsMany(t *testing.T) {
	for _, name := range []string{"a", "...", "\xFF", strings.Repeat("n", 64)} {
		for n := range 40 {
			parts := slices.Repeat([]string{name}, n)
			if n <= 16 {
				wantParts(t, copies(name, n), parts...)
				wantPath(t, copies(name, n), parts...)
			} else {
				wantNoParts(t, copies(name, n))
				wantNoPath(t, parts...)
			}
		}
	}
	wantNoPath(t, slices.Repeat([]string{"a"}, 100000)...)
	wantNoPath(t, slices.Repeat([]string{""}, 17)...)
}

// P4.1: one part that is no name spoils all, wherever it stands.
func TestPartsOneWrong(t *testing.T) {
	for n := 1; n <= 16; n++ {
		for at := range n {
			for _, wrong := range wrongNames() {
				parts := slices.Repeat([]string{"b"}, n)
				parts[at] = wrong
				wantNoPath(t, parts...)
				// With a slash in it, it may be names in a path; an empty one alone is the root.
				if s := strings.Join(parts, "/"); s != "" && wrong != "a/b" || n == 16 && wrong != "" {
					wantNoParts(t, s)
				}
			}
		}
	}
}

// P4.1: Join of no parts, of an empty one; nil and empty lists are one.
func TestJoinEmpty(t *testing.T) {
	wantPath(t, "", []string(nil)...)
	wantPath(t, "", []string{}...)
	wantNoPath(t, "")
	wantNoPath(t, "", "")
	wantNoPath(t, "a", "")
	wantNoPath(t, "", "a")
	wantNoPath(t, "a", "", "b")
}

// P4.1: Join takes no path for a part, and mends nothing.
func TestJoinMendsNothing(t *testing.T) {
	for _, parts := range [][]string{{"/"}, {"a/"}, {"/a"}, {"a", "b/c"}, {"a/b", "c"}, {"a", ".", "b"}, {"a", "..", "b"}, {".."}, {"a", "/"}} {
		wantNoPath(t, parts...)
	}
	wantPath(t, ".../a../.b", "...", "a..", ".b")
	wantPath(t, "a/a/a", "a", "a", "a")
	wantPath(t, "\x80/\xFF\xFE", "\x80", "\xFF\xFE")
}

// P4.1, R3: the parts handed in to Join stay as they are, and so does what is behind them; the path does not hang on them any more.
func TestJoinLeavesParts(t *testing.T) {
	for _, parts := range [][]string{{"a", "b", "c"}, {"c", "a", "..."}, {"a", "", "c"}, {"b", "a", "/"}, slices.Repeat([]string{"a"}, 20)} {
		all := append(slices.Clone(parts), "spare", "room")
		before := slices.Clone(all)
		got, _ := path.Join(all[:len(parts)]...)
		kept := strings.Clone(got)
		if !slices.Equal(all, before) {
			t.Errorf("Join(%q) wrote: %q", parts, all)
		}
		for i := range all {
			all[i] = "x"
		}
		if got != kept {
			t.Errorf("Join(%q) keeps what was handed in: %q", parts, got)
		}
	}
}

// P4.1, R3, R4: the parts are new memory, spare room too: whatever becomes of them, Parse answers the same again.
func TestParseNewMemory(t *testing.T) {
	for _, s := range rightPaths() {
		want, _ := partsOf(s)
		first, _ := path.Parse(s)
		second, _ := path.Parse(s)
		first = first[:cap(first)]
		for i := range first {
			first[i] = "x"
		}
		if !slices.Equal(second, want) {
			t.Errorf("two answers for %q share memory: %q", head(s), second)
		}
		wantParts(t, s, want...)
	}
}

// P4.1: of all short texts, and of the edges.
func TestParseAsTheModel(t *testing.T) {
	for _, s := range slices.Concat(shortTexts(6), wrongNames(), wrongPaths(), rightPaths()) {
		if parts, ok := partsOf(s); ok {
			wantParts(t, s, parts...)
		} else {
			wantNoParts(t, s)
		}
	}
}

// P4.1: of all lists of up to three short texts.
func TestJoinAsTheModel(t *testing.T) {
	check := func(parts ...string) {
		t.Helper()
		if allNames(parts) {
			wantPath(t, strings.Join(parts, "/"), parts...)
		} else {
			wantNoPath(t, parts...)
		}
	}
	short := shortTexts(2)
	for _, a := range short {
		check(a)
		for _, b := range short {
			check(a, b)
			for _, c := range short {
				check(a, b, c)
			}
		}
	}
}
