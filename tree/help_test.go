package tree_test

import (
	"cmp"
	"encoding/hex"
	"fmt"
	"maps"
	"slices"
	"strconv"
	"strings"
	"testing"

	"tussock/api"
	"tussock/object"
	"tussock/prolly"
	"tussock/tree"
)

// shelf has objects' bytes by their ids, and notes what it is asked. For an id that has an error it answers that.
type shelf struct {
	has   map[string]string
	errs  map[string]api.Errno
	asked []string
}

// newShelf has the empty tree.
func newShelf() *shelf {
	s := &shelf{has: map[string]string{}, errs: map[string]api.Errno{}}
	s.lay(tree.Empty())
	return s
}

func (s *shelf) get(id string) (string, api.Errno) {
	s.asked = append(s.asked, strings.Clone(id))
	return s.look(id)
}

// look is get without a note.
func (s *shelf) look(id string) (string, api.Errno) {
	if e := s.errs[id]; e != api.OK {
		return "", e
	}
	b, ok := s.has[id]
	if !ok {
		return "", api.ErrMissing
	}
	return b, api.OK
}

func (s *shelf) lay(objs ...api.Object) {
	for _, o := range objs {
		s.has[o.Id] = o.Bytes
	}
}

// askedOf is what a call asks for.
func (s *shelf) askedOf(call func()) []string {
	s.asked = nil
	call()
	return s.asked
}

// build lays a map of any pairs, entries' or not: its root.
func (s *shelf) build(pairs ...api.Pair) string {
	root, objs, e := prolly.Build(pairs...)
	if e != api.OK {
		panic(e)
	}
	s.lay(objs...)
	return root
}

// dir lays a directory: its entry.
func (s *shelf) dir(name string, entries ...api.Entry) api.Entry {
	return api.Entry{Name: name, Kind: api.KDir, Id: s.build(pairsOf(entries...)...), Size: int64(len(entries))}
}

// leaf lays a leaf of one entry: the link to it.
func (s *shelf) leaf(x api.Entry) api.Link {
	o, e := object.Leaf(pairsOf(x)...)
	if e != api.OK {
		panic(e)
	}
	s.lay(o)
	return api.Link{Last: x.Name, Id: o.Id, Many: 1}
}

// branch lays a branch over leaves: its id.
func (s *shelf) branch(leaves ...api.Link) string {
	o, e := object.Branch(api.Branch{Level: 1, Kids: leaves})
	if e != api.OK {
		panic(e)
	}
	s.lay(o)
	return o.Id
}

// pairsOf are the pairs of a directory of these entries.
func pairsOf(entries ...api.Entry) []api.Pair {
	var out []api.Pair
	for _, x := range slices.SortedFunc(slices.Values(entries), func(a, b api.Entry) int { return cmp.Compare(a.Name, b.Name) }) {
		val, e := object.Entry(x)
		if e != api.OK {
			panic(e)
		}
		out = append(out, api.Pair{Key: x.Name, Val: val})
	}
	return out
}

// fileAt is an entry of a file.
func fileAt(name string, c byte) api.Entry {
	return api.Entry{Name: name, Kind: api.KFile, Id: id(c), Size: int64(c)}
}

// files are a tree's, by their paths.
type files map[string]api.Part

// filesOf are files at paths, each of another part.
func filesOf(paths ...string) files {
	out := files{}
	for i, p := range paths {
		out[p] = part(byte(1 + i%200))
	}
	return out
}

// with are files, of which one has another part, or none.
func (l files) with(path string, c byte) files {
	out := maps.Clone(l)
	out[path] = part(c)
	return out
}

func (l files) without(paths ...string) files {
	out := maps.Clone(l)
	for _, p := range paths {
		delete(out, p)
	}
	return out
}

// edits lay all files, in an order of no meaning.
func (l files) edits() []api.Edit {
	var out []api.Edit
	for p, x := range l {
		out = append(out, api.Edit{File: api.File{Path: p, Part: x}})
	}
	return out
}

// plant lays a tree of files, without package tree: its root.
func (s *shelf) plant(l files) string { return s.plantAt("", l).Id }

func (s *shelf) plantAt(name string, l files) api.Entry {
	var entries []api.Entry
	dirs := map[string]files{}
	for p, x := range l {
		first, rest, deeper := strings.Cut(p, "/")
		switch {
		case !deeper:
			entries = append(entries, api.Entry{Name: first, Kind: api.KFile, Id: x.Id, Size: x.Size})
		case dirs[first] == nil:
			dirs[first] = files{rest: x}
		default:
			dirs[first][rest] = x
		}
	}
	for first, l := range dirs {
		entries = append(entries, s.plantAt(first, l))
	}
	return s.dir(name, entries...)
}

// id is one of 256 that are nobody's.
func id(c byte) string { return repeated(c, 32) }

func repeated(c byte, n int) string { return strings.Repeat(string([]byte{c}), n) }

func part(c byte) api.Part { return api.Part{Id: id(c), Size: int64(c)} }

// lay and gone are edits.
func lay(path string, c byte) api.Edit {
	return api.Edit{File: api.File{Path: path, Part: part(c)}}
}

func gone(path string) api.Edit { return api.Edit{File: api.File{Path: path}, Gone: true} }

func entry(t *testing.T, s *shelf, root, path string) api.Entry {
	t.Helper()
	x, e := tree.Find(s.look, root, path)
	if e != api.OK {
		t.Fatalf("Find(%q): %d", path, e)
	}
	return x
}

// numbered are n names that count up, each with the same beginning.
func numbered(beginning string, n int) []string {
	var out []string
	for i := range n {
		out = append(out, beginning+strconv.Itoa(10000+i))
	}
	return out
}

// noPaths are texts that are no path.
func noPaths() []string {
	long := repeated('n', 65)
	return []string{"/", "//", "/a", "a/", "a//b", ".", "..", "a/.", "a/..", "./a", "../a", "a/./b", "a/../b", "a\x00", "\x00", "a/\x00/b", long, "a/" + long, long + "/a",
		strings.Repeat("a/", 16) + "a", strings.Repeat("/", 100)}
}

// oddPaths are texts that are paths all the same.
func oddPaths() []string {
	return []string{"...", " ", "a b", "\n", "-", "a.", ".a", "\xff\xfe", "ä", "\\", repeated('n', 64), strings.Repeat("a/", 15) + "a", strings.Repeat(repeated('n', 64)+"/", 15) + repeated('n', 64)}
}

// errorsOfGet are what gets answer: numbers of others, of this layer's own, of nobody.
var errorsOfGet = []api.Errno{api.ErrNil, api.ErrArg, api.ErrMissing, api.ErrPathForm, api.ErrProllyMany, api.ErrProllyCorrupt, api.ErrTreeNone, api.ErrTreeMany, api.ErrStoreCorrupt, api.ErrRemoteUnavailable, 9999, -1}

// head tells an id by its first digits.
func head(id string) string { return hex.EncodeToString([]byte(id[:min(len(id), 4)])) }

func heads(ids []string) string {
	var out []string
	for _, id := range ids[:min(len(ids), 8)] {
		out = append(out, head(id))
	}
	return fmt.Sprint(len(ids), " ", out)
}

func idsOf(objs []api.Object) []string {
	var out []string
	for _, o := range objs {
		out = append(out, o.Id)
	}
	return out
}

// toldEntries, and so on, tell the first ones of a list.
func toldEntries(l []api.Entry) string {
	var out []string
	for _, x := range l[:min(len(l), 5)] {
		out = append(out, fmt.Sprintf("%.20q %d %s %d", x.Name, x.Kind, head(x.Id), x.Size))
	}
	return fmt.Sprint(len(l), " ", out)
}

func toldFiles(l []api.File) string {
	var out []string
	for _, x := range l[:min(len(l), 5)] {
		out = append(out, fmt.Sprintf("%.40q %s %d", x.Path, head(x.Id), x.Size))
	}
	return fmt.Sprint(len(l), " ", out)
}

func toldStatus(l []api.Status) string {
	var out []string
	for _, x := range l[:min(len(l), 5)] {
		out = append(out, fmt.Sprintf("%.40q %d", x.Path, x.What))
	}
	return fmt.Sprint(len(l), " ", out)
}

func toldEdits(l []api.Edit) string {
	var out []string
	for _, x := range l[:min(len(l), 8)] {
		out = append(out, fmt.Sprintf("%.40q %d %d %t", x.Path, len(x.Id), x.Size, x.Gone))
	}
	return fmt.Sprint(len(l), " ", out)
}
