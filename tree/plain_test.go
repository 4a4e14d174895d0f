package tree_test

import (
	"maps"
	"slices"
	"strings"
	"testing"

	"tussock/api"
	"tussock/object"
	"tussock/path"
	"tussock/prolly"
	"tussock/tree"
)

// plain reckons by the chapter's words what a call must answer, and asks what it must ask.
type plain struct{ get api.Get }

func isPath(s string) bool {
	if s == "" {
		return true
	}
	names := strings.Split(s, "/")
	for _, n := range names {
		if n == "" || n == "." || n == ".." || len(n) > 64 || strings.Contains(n, "\x00") {
			return false
		}
	}
	return len(names) <= 16
}

func joined(dir, name string) string { return strings.TrimPrefix(dir+"/"+name, "/") }

func dirOf(path string) string { return path[:max(0, strings.LastIndexByte(path, '/'))] }

func (p plain) find(root, at string) (api.Entry, api.Errno) {
	if !isPath(at) {
		return api.Entry{}, api.ErrPathForm
	}
	x := api.Entry{Kind: api.KDir, Id: root}
	for name := range strings.SplitSeq(at, "/") {
		if at == "" {
			break
		}
		if x.Kind == api.KFile {
			return api.Entry{}, api.ErrTreeNotDir
		}
		val, ok, e := prolly.Find(p.get, x.Id, name)
		if e != api.OK {
			return api.Entry{}, e
		}
		if !ok {
			return api.Entry{}, api.ErrTreeNone
		}
		if x, e = object.TakeEntry(name, val); e != api.OK {
			return api.Entry{}, api.ErrTreeForm
		}
	}
	return x, api.OK
}

// entries are a directory's; of a root nobody says how many there are.
func (p plain) entries(dir api.Entry, isRoot bool) ([]api.Entry, api.Errno) {
	pairs, e := prolly.List(p.get, dir.Id, "", "")
	if e != api.OK {
		return nil, e
	}
	var out []api.Entry
	for _, x := range pairs {
		y, e := object.TakeEntry(x.Key, x.Val)
		if e != api.OK {
			return nil, api.ErrTreeForm
		}
		out = append(out, y)
	}
	if !isRoot && dir.Size != int64(len(out)) {
		return nil, api.ErrTreeForm
	}
	return out, api.OK
}

func (p plain) list(root, at string) ([]api.Entry, api.Errno) {
	x, e := p.find(root, at)
	if e != api.OK {
		return nil, e
	}
	if x.Kind == api.KFile {
		return nil, api.ErrTreeNotDir
	}
	return p.entries(x, at == "")
}

func (p plain) files(root, at string) ([]api.File, api.Errno) {
	x, e := p.find(root, at)
	if e != api.OK {
		return nil, e
	}
	var out []api.File
	met := 0
	if e := p.walk(at, x, &met, &out); e != api.OK {
		return nil, e
	}
	return out, api.OK
}

func (p plain) walk(at string, x api.Entry, met *int, out *[]api.File) api.Errno {
	if x.Kind == api.KFile {
		*out = append(*out, api.File{Path: at, Part: api.Part{Id: x.Id, Size: x.Size}})
		return api.OK
	}
	entries, e := p.entries(x, at == "")
	if e != api.OK {
		return e
	}
	for _, y := range entries {
		if *met++; *met > 10000 {
			return api.ErrTreeMany
		}
		if e := p.walk(joined(at, y.Name), y, met, out); e != api.OK {
			return e
		}
	}
	return api.OK
}

// plainEdit has what a tree has while it is edited: entries by their whole paths, of the directories into which one came. The root's path is empty.
type plainEdit struct {
	plain
	at   map[string]api.Entry
	came map[string]bool
	objs []api.Object
}

func (p plain) edit(root string, edits ...api.Edit) (string, []api.Object, api.Errno) {
	l := plainEdit{plain: p, at: map[string]api.Entry{"": {Kind: api.KDir, Id: root}}, came: map[string]bool{}}
	for _, x := range edits {
		if e := l.do(x); e != api.OK {
			return "", nil, e
		}
	}
	x, e := l.build("")
	if e != api.OK {
		return "", nil, e
	}
	return x.Id, l.objs, api.OK
}

func (l *plainEdit) do(x api.Edit) api.Errno {
	if x.Path == "" || !isPath(x.Path) {
		return api.ErrPathForm
	}
	if x.Gone && (x.Id != "" || x.Size != 0) || !x.Gone && (len(x.Id) != 32 || x.Size < 0 || x.Size > 262144) {
		return api.ErrArg
	}
	names := strings.Split(x.Path, "/")
	for i := range names {
		if e := l.come(strings.Join(names[:i], "/"), x.Gone); e != api.OK {
			return e
		}
	}
	was, ok := l.at[x.Path]
	if x.Gone {
		if !ok {
			return api.ErrTreeNone
		}
		l.remove(x.Path)
		return api.OK
	}
	if ok && was.Kind == api.KDir {
		return api.ErrTreeDir
	}
	l.at[x.Path] = api.Entry{Name: names[len(names)-1], Kind: api.KFile, Id: x.Id, Size: x.Size}
	return api.OK
}

func (l *plainEdit) come(dir string, find bool) api.Errno {
	x, ok := l.at[dir]
	switch {
	case !ok && find:
		return api.ErrTreeNone
	case !ok:
		l.at[dir] = api.Entry{Name: dir[strings.LastIndexByte(dir, '/')+1:], Kind: api.KDir}
		l.came[dir] = true
	case x.Kind == api.KFile:
		return api.ErrTreeNotDir
	case !l.came[dir]:
		l.came[dir] = true
		entries, e := l.entries(x, dir == "")
		if e != api.OK {
			return e
		}
		for _, y := range entries {
			l.at[joined(dir, y.Name)] = y
		}
	}
	return api.OK
}

// within are the names right in a directory.
func (l *plainEdit) within(dir string) []string {
	var out []string
	for at, x := range l.at {
		if at != "" && dirOf(at) == dir {
			out = append(out, x.Name)
		}
	}
	slices.Sort(out)
	return out
}

// remove takes away what stands at a path, and what is left empty.
func (l *plainEdit) remove(path string) {
	below := func(at string) bool { return at == path || strings.HasPrefix(at, path+"/") }
	maps.DeleteFunc(l.at, func(at string, _ api.Entry) bool { return below(at) })
	maps.DeleteFunc(l.came, func(at string, _ bool) bool { return below(at) })
	if dir := dirOf(path); dir != "" && len(l.within(dir)) == 0 {
		l.remove(dir)
	}
}

func (l *plainEdit) build(dir string) (api.Entry, api.Errno) {
	x := l.at[dir]
	if !l.came[dir] {
		return x, api.OK
	}
	var entries []api.Entry
	for _, name := range l.within(dir) {
		y, e := l.build(joined(dir, name))
		if e != api.OK {
			return x, e
		}
		entries = append(entries, y)
	}
	root, objs, e := prolly.Build(pairsOf(entries...)...)
	if e != api.OK {
		return x, e
	}
	for _, o := range objs {
		if !slices.Contains(l.objs, o) {
			l.objs = append(l.objs, o)
		}
	}
	x.Id, x.Size = root, int64(len(entries))
	return x, api.OK
}

// plainDiff holds two trees against each other, and notes all errors on the way.
type plainDiff struct {
	plain
	told []api.Status
	many int
	errs []api.Errno
}

// dirs goes into directories of one path; the one that is nothing has no Kind.
func (d *plainDiff) dirs(at string, was, now api.Entry) {
	var byName [2]map[string]api.Entry
	for i, x := range []api.Entry{was, now} {
		byName[i] = map[string]api.Entry{}
		if x.Kind == 0 {
			continue
		}
		entries, e := d.entries(x, at == "")
		if e != api.OK {
			d.errs = append(d.errs, e)
			return // the other one's entries can't be held against its own
		}
		for _, y := range entries {
			byName[i][y.Name] = y
		}
	}
	names := maps.Clone(byName[0])
	maps.Copy(names, byName[1])
	for _, name := range slices.Sorted(maps.Keys(names)) {
		if d.many > 10000 {
			return
		}
		d.name(joined(at, name), byName[0][name], byName[1][name])
	}
}

func (d *plainDiff) name(at string, was, now api.Entry) {
	if was == now {
		return
	}
	what := 0
	switch {
	case was.Kind == api.KFile && now.Kind == api.KFile:
		what = api.Changed
	case was.Kind == api.KFile:
		what = api.Removed
	case now.Kind == api.KFile:
		what = api.Added
	}
	if what != 0 {
		d.many++
		d.told = append(d.told, api.Status{Path: at, What: what})
	}
	if was.Kind != api.KDir {
		was = api.Entry{}
	}
	if now.Kind != api.KDir {
		now = api.Entry{}
	}
	if was != now {
		d.many++
		d.dirs(at, was, now)
	}
}

// diff is what became of files, and all errors of which one must be answered.
func (p plain) diff(a, b string) ([]api.Status, []api.Errno) {
	if a == b {
		return nil, nil
	}
	d := plainDiff{plain: p}
	d.dirs("", api.Entry{Kind: api.KDir, Id: a}, api.Entry{Kind: api.KDir, Id: b})
	if d.many > 10000 {
		return nil, []api.Errno{api.ErrTreeMany}
	}
	if len(d.errs) > 0 {
		return nil, d.errs
	}
	slices.SortFunc(d.told, func(x, y api.Status) int { return path.Compare(x.Path, y.Path) })
	return d.told, nil
}

func wantAsked(t *testing.T, what string, got, want []string) {
	t.Helper()
	if !slices.Equal(got, want) {
		t.Errorf("%s: asked for %s; want %s", what, heads(got), heads(want))
	}
}

// wantAmong asks that nothing but what is due was asked for.
func wantAmong(t *testing.T, what string, asked, due []string) {
	t.Helper()
	ids := map[string]bool{}
	for _, id := range due {
		ids[id] = true
	}
	for _, id := range asked {
		if !ids[id] {
			t.Errorf("%s: asked for %s, which is not to be gone into", what, head(id))
		}
	}
}

// wantFind asks Find for what the plain reckoning has, and what it asks.
func wantFind(t *testing.T, what string, s *shelf, root, at string) {
	t.Helper()
	var got, want api.Entry
	var e, wantE api.Errno
	asked := s.askedOf(func() { got, e = tree.Find(s.get, root, at) })
	due := s.askedOf(func() { want, wantE = plain{s.get}.find(root, at) })
	if got != want || e != wantE {
		t.Errorf("%s: Find(%.40q): %s, %d; want %s, %d", what, at, toldEntries([]api.Entry{got}), e, toldEntries([]api.Entry{want}), wantE)
	}
	wantAsked(t, what+": Find", asked, due)
}

func wantList(t *testing.T, what string, s *shelf, root, at string) {
	t.Helper()
	var got, want []api.Entry
	var e, wantE api.Errno
	asked := s.askedOf(func() { got, e = tree.List(s.get, root, at) })
	due := s.askedOf(func() { want, wantE = plain{s.get}.list(root, at) })
	if !slices.Equal(got, want) || e != wantE {
		t.Errorf("%s: List(%.40q): %s, %d; want %s, %d", what, at, toldEntries(got), e, toldEntries(want), wantE)
	}
	wantAsked(t, what+": List", asked, due)
}

func wantFiles(t *testing.T, what string, s *shelf, root, at string) {
	t.Helper()
	var got, want []api.File
	var e, wantE api.Errno
	asked := s.askedOf(func() { got, e = tree.Files(s.get, root, at) })
	due := s.askedOf(func() { want, wantE = plain{s.get}.files(root, at) })
	if !slices.Equal(got, want) || e != wantE {
		t.Errorf("%s: Files(%.40q): %s, %d; want %s, %d", what, at, toldFiles(got), e, toldFiles(want), wantE)
	}
	wantAsked(t, what+": Files", asked, due)
}

// wantRead asks Find, List and Files.
func wantRead(t *testing.T, what string, s *shelf, root string, paths ...string) {
	t.Helper()
	for _, at := range paths {
		wantFind(t, what, s, root, at)
		wantList(t, what, s, root, at)
		wantFiles(t, what, s, root, at)
	}
}

// wantEdit asks Edit for what the plain reckoning has, objects in their order, and what it asks; the objects come to the shelf.
func wantEdit(t *testing.T, what string, s *shelf, root string, edits ...api.Edit) string {
	t.Helper()
	var got, want string
	var objs, wantObjs []api.Object
	var e, wantE api.Errno
	asked := s.askedOf(func() { got, objs, e = tree.Edit(s.get, root, edits...) })
	due := s.askedOf(func() { want, wantObjs, wantE = plain{s.get}.edit(root, edits...) })
	if got != want || e != wantE || !slices.Equal(objs, wantObjs) {
		t.Errorf("%s: Edit(%s): %s, %s, %d; want %s, %s, %d", what, toldEdits(edits), head(got), heads(idsOf(objs)), e, head(want), heads(idsOf(wantObjs)), wantE)
	}
	wantAsked(t, what+": Edit", asked, due)
	s.lay(objs...)
	return got
}

// wantEditError asks for one error, and nothing beside it.
func wantEditError(t *testing.T, what string, s *shelf, root string, want api.Errno, edits ...api.Edit) {
	t.Helper()
	if got, objs, e := tree.Edit(s.look, root, edits...); got != "" || len(objs) != 0 || e != want {
		t.Errorf("%s: Edit(%s): %s, %d objects, %d; want %d alone", what, toldEdits(edits), head(got), len(objs), e, want)
	}
	wantEdit(t, what, s, root, edits...)
}

// wantDiff asks Diff, either way round, for what the plain reckoning has; and that it asks for nothing that is not to be gone into.
func wantDiff(t *testing.T, what string, s *shelf, a, b string) {
	t.Helper()
	for _, x := range [][2]string{{a, b}, {b, a}} {
		var got, want []api.Status
		var e api.Errno
		var errs []api.Errno
		asked := s.askedOf(func() { got, e = tree.Diff(s.get, x[0], x[1]) })
		due := s.askedOf(func() { want, errs = plain{s.get}.diff(x[0], x[1]) })
		if len(errs) == 0 {
			errs = []api.Errno{api.OK}
		}
		if !slices.Equal(got, want) || !slices.Contains(errs, e) {
			t.Errorf("%s: Diff: %s, %d; want %s, one of %v", what, toldStatus(got), e, toldStatus(want), errs)
		}
		wantAmong(t, what+": Diff", asked, due)
	}
}

// wantDiffError asks for one error, either way round, and nothing beside it.
func wantDiffError(t *testing.T, what string, s *shelf, a, b string, want api.Errno) {
	t.Helper()
	for _, x := range [][2]string{{a, b}, {b, a}} {
		if got, e := tree.Diff(s.look, x[0], x[1]); len(got) != 0 || e != want {
			t.Errorf("%s: Diff: %s, %d; want %d alone", what, toldStatus(got), e, want)
		}
	}
	wantDiff(t, what, s, a, b)
}
