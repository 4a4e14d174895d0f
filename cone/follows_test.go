package cone_test

import (
	"slices"
	"testing"

	"tussock/api"
	"tussock/cone"
	"tussock/path"
)

// wantShownIsRead holds a cone against what is read of what is shown of it.
func wantShownIsRead(t *testing.T, dirs []string) {
	t.Helper()
	form, formE := cone.Of(dirs...)
	text, e := cone.Show(dirs)
	if e != api.OK {
		return
	}
	got, at, e := cone.Parse(text)
	if !slices.Equal(got, form) || at != 0 || e != api.OK || formE != api.OK {
		t.Errorf("%s is shown as %q, which is read as %s, %d, %d; want %s", heads(dirs), head(text), heads(got), at, e, heads(form))
	}
	if again, e := cone.Show(got); again != text || e != api.OK {
		t.Errorf("%s is shown as %q, and then as %q, %d", heads(dirs), head(text), head(again), e)
	}
}

// wantSameFiles holds a cone against its one form: that is its own, and of each path there is as much in both.
func wantSameFiles(t *testing.T, dirs []string, paths ...string) {
	t.Helper()
	form, e := cone.Of(dirs...)
	if e != api.OK {
		return
	}
	if again, e := cone.Of(form...); !slices.Equal(again, form) || e != api.OK {
		t.Errorf("the one form of %s: %s, %d", heads(form), heads(again), e)
	}
	for _, p := range paths {
		if has, want := cone.Has(form, p), cone.Has(dirs, p); has != want {
			t.Errorf("Has(%s, %q): %v; want %v, as of %s", heads(form), head(p), has, want, heads(dirs))
		}
		if n, want := cone.Dir(form, p), cone.Dir(dirs, p); n != want {
			t.Errorf("Dir(%s, %q): %d; want %d, as of %s", heads(form), head(p), n, want, heads(dirs))
		}
	}
}

// wantFilesByDirs holds files against the directories in which they stand.
func wantFilesByDirs(t *testing.T, dirs []string, paths ...string) {
	t.Helper()
	for _, p := range paths {
		dir, _, e := path.Split(p)
		if e != api.OK {
			continue
		}
		if has, n := cone.Has(dirs, p), cone.Dir(dirs, dir); has != (n == 1 || n == 2) {
			t.Errorf("%s: Has(%q) %v, Dir(%q) %d", heads(dirs), head(p), has, head(dir), n)
		}
	}
}

// wantMore holds a cone against one that has another directory, too.
func wantMore(t *testing.T, dirs []string, one string, paths ...string) {
	t.Helper()
	more := append(slices.Clip(dirs), one)
	for _, p := range paths {
		if cone.Has(dirs, p) && !cone.Has(more, p) || cone.Dir(dirs, p) > cone.Dir(more, p) {
			t.Errorf("%q is in %s, but not in %s", head(p), heads(dirs), heads(more))
		}
	}
}

// P18.4: on all lists of at most two edges.
func TestFollowsAtEdges(t *testing.T) {
	list := edges()
	for _, x := range list {
		for _, y := range list {
			dirs := []string{x, y}
			wantShownIsRead(t, dirs)
			wantSameFiles(t, dirs, x, y, x+"/f", y+"/f")
			wantFilesByDirs(t, dirs, x, y, x+"/f", y+"/f", x+"/f/f")
			wantMore(t, []string{x}, y, x, y, x+"/f", y+"/f", "a/b", "a/b/c/f")
		}
	}
}

// P18.4: on drawn lists, of those that have a text that is no path, too.
func TestFollowsOnDrawn(t *testing.T) {
	r := newDraw(1)
	shown := 0
	for range 20000 {
		dirs := r.list(r.Intn(8), r.path)
		paths := r.list(6, r.path)
		if _, e := cone.Show(dirs); e == api.OK && len(dirs) > 2 {
			shown++
		}
		wantShownIsRead(t, dirs)
		wantSameFiles(t, dirs, paths...)
		wantFilesByDirs(t, dirs, paths...)
		wantMore(t, dirs, r.path(), paths...)
	}
	if shown < 1000 {
		t.Errorf("only %d were shown: the draws say too little", shown)
	}
}

// P18.4: the greatest cone there is, with the longest paths.
func TestFollowsOnTheGreatest(t *testing.T) {
	var dirs []string
	for i := range 64 {
		dirs = append(dirs, copies("n", 15)+"/"+string([]byte{byte(64 + i)}))
	}
	text, e := cone.Show(dirs)
	if e != api.OK || len(text) != 64*32 {
		t.Errorf("%d bytes, %d", len(text), e)
	}
	wantShownIsRead(t, dirs)
	wantSameFiles(t, dirs, append(dirs, "n", "n/n/x", copies("n", 16), "m/x")...)
}
