package path_test

import (
	"slices"
	"strings"
	"testing"

	"tussock/path"
)

// P4.2: the chapter's examples.
func TestSplitExamples(t *testing.T) {
	wantSplit(t, "a/b/c", "a/b", "c")
	wantSplit(t, "c", "", "c")
	wantNoSplit(t, "")
}

// P4.2: of paths with one part, with many; the directory's directory, up to the root.
func TestSplitParts(t *testing.T) {
	wantSplit(t, "a/a", "a", "a")
	wantSplit(t, "...", "", "...")
	wantSplit(t, ".../.a", "...", ".a")
	wantSplit(t, "a./b..", "a.", "b..")
	wantSplit(t, "\xFF/\x80", "\xFF", "\x80")
	wantSplit(t, "a-b/a-c", "a-b", "a-c")
	for _, name := range []string{"a", "\xFF\xFE", strings.Repeat("n", 64)} {
		for n := 1; n <= 16; n++ {
			wantSplit(t, copies(name, n), copies(name, n-1), name)
		}
		wantNoSplit(t, copies(name, 17))
	}
}

// P4.2: of texts that are no paths, whichever of their parts is wrong.
func TestSplitNoPath(t *testing.T) {
	for _, s := range wrongPaths() {
		wantNoSplit(t, s)
	}
	wantNoSplit(t, "a/b/..")
	wantNoSplit(t, "../b/c")
	wantNoSplit(t, "a//c")
	wantNoSplit(t, strings.Repeat("a", 65)+"/b/c")
	wantNoSplit(t, "a/b/"+strings.Repeat("c", 65))
}

// P4.2: of all short texts, and of the edges.
func TestSplitAsTheModel(t *testing.T) {
	for _, s := range slices.Concat(shortTexts(6), wrongNames(), rightPaths()) {
		parts, ok := partsOf(s)
		if !ok || len(parts) == 0 {
			wantNoSplit(t, s)
			continue
		}
		last := len(parts) - 1
		wantSplit(t, s, strings.Join(parts[:last], "/"), parts[last])
	}
}

// P4.2: the chapter's examples.
func TestWithinExamples(t *testing.T) {
	wantWithin(t, "a", "a/b", true)
	wantWithin(t, "a", "ab", false)
	wantWithin(t, "", "a", true)
	wantWithin(t, "a", "a", true)
}

// P4.2: all paths lie within the root and within themselves; the root lies within no other.
func TestWithinRootAndSelf(t *testing.T) {
	for _, s := range rightPaths() {
		wantWithin(t, "", s, true)
		wantWithin(t, s, s, true)
		wantWithin(t, s, "", s == "")
	}
}

// P4.2: parts are held against each other, not texts.
func TestWithinParts(t *testing.T) {
	for _, x := range []struct {
		dir, s string
		want   bool
	}{
		{"a", "a/b/c", true}, {"a/b", "a/b/c", true}, {"a/b/c", "a/b", false}, {"a/b", "a", false},
		{"a", "aa", false}, {"a", "a-b", false}, {"a", "a.b", false}, {"a", "a.", false}, {"a", "a\x01", false}, {"a", "a\xFF", false}, {"a", "ab/a", false}, {"ab", "a", false}, {"ab", "a/b", false},
		{"a/b", "a/bc", false}, {"a/b", "a/bc/d", false}, {"a/b", "a/b-/c", false}, {"a/b", "a/b./c", false}, {"a/b", "ab/c", false},
		{"b", "a/b", false}, {"b", "a/b/c", false}, {"a/b", "b/a/b", false}, {"a", "b", false}, {"a", "A", false}, {"A", "a/b", false},
		{"...", "..../a", false}, {"...", ".../a", true}, {"é", "é/a", true}, {"\xC3", "é", false}, {"\xC3", "é/a", false}, {"\xC3", "\xC3/a", true},
		{copies("a", 15), copies("a", 16), true}, {copies("a", 16), copies("a", 15), false}, {copies("a", 16), copies("a", 16), true},
		{copies("a", 15) + "/b", copies("a", 16), false}, {strings.Repeat("n", 63), strings.Repeat("n", 64), false},
	} {
		wantWithin(t, x.dir, x.s, x.want)
	}
}

// P4.2: texts that are no paths, on either side and on both.
func TestWithinNoPath(t *testing.T) {
	for _, wrong := range wrongPaths() {
		for _, s := range []string{"", "a", "a/b", "b", "b/a", copies("a", 16)} {
			wantWithin(t, wrong, s, false)
			wantWithin(t, s, wrong, false)
		}
		wantWithin(t, wrong, wrong, false)
		wantWithin(t, wrong, wrong+"/a", false)
		wantWithin(t, wrong, wrong+"a", false)
	}
	wantWithin(t, "a/", "a/b", false)
	wantWithin(t, "a", "a/", false)
	wantWithin(t, "a", "a//b", false)
	wantWithin(t, "a", "a/../a", false)
	wantWithin(t, "/", "a", false)
	wantWithin(t, ".", "a", false)
	wantWithin(t, "a", copies("a", 17), false)
}

// within is what the chapter's words say of two texts.
func within(dir, s string) bool {
	outer, ok := partsOf(dir)
	inner, fine := partsOf(s)
	if !ok || !fine || len(outer) > len(inner) {
		return false
	}
	for i := range outer {
		if outer[i] != inner[i] {
			return false
		}
	}
	return true
}

// P4.2: of all pairs of short texts, and of the edges.
func TestWithinAsTheModel(t *testing.T) {
	texts := slices.Concat(shortTexts(4), rightPaths(), []string{"a/a/a", "a/aa/a", "aa/a/a", "a/a/", "/a/a/a"})
	for _, dir := range texts {
		for _, s := range texts {
			if path.Within(dir, s) != within(dir, s) {
				wantWithin(t, dir, s, within(dir, s))
			}
		}
	}
}
