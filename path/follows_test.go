package path_test

import (
	"math/rand"
	"slices"
	"strings"
	"testing"

	"tussock/api"
	"tussock/path"
)

// randomName is right; its bytes are of all kinds, so that names often begin one another.
func randomName(r *rand.Rand) string {
	for {
		b := make([]byte, []int{1, 1, 2, 2, 3, 63, 64}[r.Intn(7)])
		for i := range b {
			b[i] = []byte{'a', 'b', '.', '-', 1, 127, 128, 255, byte(1 + r.Intn(46))}[r.Intn(9)]
		}
		if isName(string(b)) {
			return string(b)
		}
	}
}

func randomParts(r *rand.Rand) []string {
	parts := make([]string, r.Intn(api.MaxDepth+1))
	for i := range parts {
		parts[i] = randomName(r)
	}
	return parts
}

// P4.4: each list of at most 16 names has a path, of which it is the parts.
func TestListToPathAndBack(t *testing.T) {
	r := rand.New(rand.NewSource(2))
	for range 20000 {
		parts := randomParts(r)
		s, e := path.Join(parts...)
		if e != api.OK {
			t.Fatalf("Join(%q): %d", parts, e)
		}
		wantParts(t, s, parts...)
	}
}

// P4.4: each path has parts, of which it is the path; no other text has any.
func TestPathToListAndBack(t *testing.T) {
	for _, s := range slices.Concat(shortTexts(6), rightPaths(), wrongPaths()) {
		parts, e := path.Parse(s)
		if e == api.OK {
			wantPath(t, s, parts...)
		} else if _, ok := partsOf(s); ok {
			t.Errorf("Parse(%q): %d", head(s), e)
		}
	}
}

// P4.4: no two lists have one path.
func TestListsApart(t *testing.T) {
	r := rand.New(rand.NewSource(3))
	owners := map[string][]string{}
	for range 20000 {
		parts := randomParts(r)
		s, e := path.Join(parts...)
		if owner, ok := owners[s]; ok && !slices.Equal(owner, parts) || e != api.OK {
			t.Fatalf("%q and %q: %q, %d", owner, parts, s, e)
		}
		owners[s] = parts
	}
}

// P4.4: what lies within a directory that lies within another one lies within that, too.
func TestWithinThree(t *testing.T) {
	texts := slices.Concat(rightPaths(), wrongPaths()[:20])
	for _, s := range shortTexts(5) {
		if strings.Count(s, "a") > 1 {
			texts = append(texts, s)
		}
	}
	met := 0
	for _, a := range texts {
		for _, b := range texts {
			if !path.Within(a, b) {
				continue
			}
			for _, c := range texts {
				if path.Within(b, c) {
					met++
					wantWithin(t, a, c, true)
				}
			}
		}
	}
	if met < 1000 {
		t.Errorf("only %d met: the texts say too little", met)
	}
}

// P4.4: of a path's beginnings the shorter ones have the longer ones within, and none the other way round.
func TestWithinBeginnings(t *testing.T) {
	r := rand.New(rand.NewSource(4))
	for range 300 {
		parts := randomParts(r)
		for i := range len(parts) + 1 {
			for j := range len(parts) + 1 {
				wantWithin(t, strings.Join(parts[:i], "/"), strings.Join(parts[:j], "/"), i <= j)
			}
		}
	}
}

// checkDirectory holds a path against its directory: it lies within that, and behind it; the two parts make it up.
func checkDirectory(t *testing.T, s string) {
	t.Helper()
	dir, last, e := path.Split(s)
	if e != api.OK {
		t.Fatalf("Split(%q): %d", head(s), e)
	}
	wantWithin(t, dir, s, true)
	wantWithin(t, s, dir, false)
	wantOrder(t, dir, s, -1)
	parts, _ := path.Parse(dir)
	wantPath(t, s, append(parts, last)...)
}

// P4.4: a path lies within its directory.
func TestWithinDirectory(t *testing.T) {
	for _, s := range slices.Concat(shortTexts(6), rightPaths()) {
		if parts, ok := partsOf(s); ok && len(parts) > 0 {
			checkDirectory(t, s)
		}
	}
	r := rand.New(rand.NewSource(5))
	for range 2000 {
		if parts := randomParts(r); len(parts) > 0 {
			checkDirectory(t, strings.Join(parts, "/"))
		}
	}
}

// All promises, on any two texts.
func FuzzAsTheModel(f *testing.F) {
	for _, s := range []string{"", "a", "/", "a/b", "a//b", "a/.", "..", "\x00", "\x80/\xFF", copies("a", 17), strings.Repeat("a", 65)} {
		f.Add(s, "a/b")
		f.Add("a", s)
	}
	f.Fuzz(func(t *testing.T, a, b string) {
		if got := path.IsName(a); got != isName(a) {
			t.Errorf("IsName(%q): %v", a, got)
		}
		parts, ok := partsOf(a)
		if ok {
			wantParts(t, a, parts...)
			wantPath(t, a, parts...)
		} else {
			wantNoParts(t, a)
		}
		if ok && a != "" {
			checkDirectory(t, a)
		} else {
			wantNoSplit(t, a)
		}
		if isName(a) && isName(b) {
			wantPath(t, a+"/"+b, a, b)
		} else {
			wantNoPath(t, a, b)
		}
		wantWithin(t, a, b, within(a, b))
		wantOrder(t, a, b, order(a, b))
	})
}
