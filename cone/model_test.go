package cone_test

import (
	"slices"
	"strings"
	"testing"

	"tussock/api"
	"tussock/cone"
)

// P18.1 to P18.3: drawn directories, texts and paths against the plain reckoning.
func TestDrawn(t *testing.T) {
	for seed := range int64(20000) {
		r := newDraw(seed)
		one := r.right
		if r.Intn(3) == 0 {
			one = r.path
		}
		dirs := r.list(r.Intn(1+r.Intn(20)), one)
		wantAll(t, dirs, r.list(4, r.path)...)
		wantAll(t, r.list(3, func() string { return r.one(edges()...) }), r.path(), r.one(edges()...))
		if t.Failed() {
			t.Fatalf("the seed %d", seed)
		}
	}
}

// P18.1, P18.2: drawn lists about as great as a cone may be.
func TestDrawnMany(t *testing.T) {
	many := 0
	for seed := range int64(300) {
		r := newDraw(seed)
		dirs := r.list(50+r.Intn(40), func() string {
			return r.one("a", "b", "c/d") + "/" + r.one(numbered(200)...) + r.one("", "", "/a", "/b")
		})
		if _, e := cone.Of(dirs...); e == api.ErrConeMany {
			many++
		}
		wantAll(t, dirs, "a/d", "c/d", "c/d/d/1100", "b/d/1100/x")
		if t.Failed() {
			t.Fatalf("the seed %d", seed)
		}
	}
	if many < 50 || many > 250 {
		t.Errorf("%d of 300 were too many: the draws say too little", many)
	}
}

// P18.2: drawn texts of lines of all kinds.
func TestDrawnTexts(t *testing.T) {
	for seed := range int64(20000) {
		r := newDraw(seed)
		lines := r.list(r.Intn(12), func() string {
			return r.one("", "#", "# a", "*", " ", "a*", "a#b", r.right(), r.right(), r.right(), r.path())
		})
		wantParse(t, strings.Join(lines, "\n"))
		wantParse(t, strings.Join(lines, "\n")+"\n")
		if t.Failed() {
			t.Fatalf("the seed %d", seed)
		}
	}
}

// P18.1, P18.3: great inputs end soon.
func TestGreatInputs(t *testing.T) {
	dirs := slices.Repeat(append(numbered(2000), "a", "", copies("n", 16)), 50)
	wantForm(t, slices.Repeat([]string{"b", "a/b", "a"}, 50000), "a", "b")
	if form, e := cone.Of(dirs...); !slices.Equal(form, []string{""}) || e != api.OK {
		t.Errorf("%s, %d", heads(form), e)
	}
	wantUnread(t, strings.Repeat("a/b\n", 1000000)+"/", 1000001, api.ErrConeLine)
	long := strings.Repeat("n/", 1<<20)
	for _, p := range []string{long, long + "n", strings.Repeat("n", 1<<22)} {
		dirs := slices.Repeat([]string{p, "n"}, 50000)
		if n := cone.Dir(dirs, p); n != 0 || cone.Has(dirs, p) {
			t.Errorf("%q: %d", head(p), n)
		}
	}
}

// P18.1 to P18.4: lists, texts and paths of any bytes.
func FuzzAsTheModel(f *testing.F) {
	f.Add("# mine\na/c\n\nb", "a/x", "\n")
	f.Add("a\nb//c", "a", ",")
	f.Add("b,a/c,a/c/d,b", "a/c/d", ",")
	f.Add("*\n#\n**", "*/a", "\n")
	f.Add(strings.Join(numbered(65), "\n"), "d/1000", "\n")
	f.Add("a,ab,a-,a/b", "a/b/c", ",")
	f.Fuzz(func(t *testing.T, text, p, sign string) {
		if len(text) > 5000 || sign == "" {
			return
		}
		dirs := strings.Split(text, sign)
		wantParse(t, text)
		wantAll(t, dirs, p, text)
		wantShownIsRead(t, dirs)
		wantSameFiles(t, dirs, p)
		wantFilesByDirs(t, dirs, p, p+"/f")
		wantMore(t, dirs, p, dirs...)
	})
}
