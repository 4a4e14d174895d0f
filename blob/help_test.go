package blob_test

import (
	"crypto/sha256"
	"encoding/hex"
	"math/rand"
	"slices"
	"strings"
	"testing"

	"tussock/api"
	"tussock/blob"
)

// shelf has objects' bytes by their ids, and notes what it is asked. For an id that has an error it answers that.
type shelf struct {
	has   map[string]string
	errs  map[string]api.Errno
	asked []string
}

func shelfOf(objs ...api.Object) *shelf {
	s := &shelf{has: map[string]string{}, errs: map[string]api.Errno{}}
	for _, o := range objs {
		s.has[o.Id] = o.Bytes
	}
	return s
}

func (s *shelf) get(id string) (string, api.Errno) {
	s.asked = append(s.asked, strings.Clone(id))
	return s.look(id)
}

// look is get without a note.
func (s *shelf) look(id string) (string, api.Errno) {
	if e := s.errs[id]; e != api.OK {
		return "", e
	}
	b, ok := s.has[id]
	if !ok {
		return "", api.ErrMissing
	}
	return b, api.OK
}

// lay lays bytes under their id.
func (s *shelf) lay(b string) string {
	id := sumOf(b)
	s.has[id] = b
	return id
}

func (s *shelf) layChunk(data string) api.Part {
	return api.Part{Id: s.lay(plainChunk(data)), Size: int64(len(data))}
}

func (s *shelf) layFan(level int, kids ...api.Part) api.Part {
	size := int64(0)
	for _, k := range kids {
		size += k.Size
	}
	return api.Part{Id: s.lay(plainFan(api.Fan{Level: level, Kids: kids})), Size: size}
}

// built is a file that Build made, on a shelf of its own.
func built(t *testing.T, data string) (*shelf, api.Part) {
	t.Helper()
	root, objs, e := blob.Build(data)
	if e != api.OK {
		t.Fatalf("Build of %d bytes: %d", len(data), e)
	}
	return shelfOf(objs...), root
}

func sumOf(b string) string {
	sum := sha256.Sum256([]byte(b))
	return string(sum[:])
}

func hexOf(s string) string { return hex.EncodeToString([]byte(s)) }

// id is one of 256 that are nobody's.
func id(c byte) string { return repeated(c, 32) }

func repeated(c byte, n int) string { return strings.Repeat(string([]byte{c}), n) }

// countUp are n bytes that count up from 0.
func countUp(n int) string {
	b := make([]byte, n)
	for i := range b {
		b[i] = byte(i)
	}
	return string(b)
}

// scattered are n bytes that a short rule makes.
func scattered(n int) string {
	b := make([]byte, n)
	for i := range b {
		b[i] = byte(i*i + (i>>4)*i*5 + i>>7)
	}
	return string(b)
}

func drawn(r *rand.Rand, n int) string {
	b := make([]byte, n)
	r.Read(b)
	return string(b)
}

// manyFiles are of the sizes at which something may change, and of all kinds of bytes.
func manyFiles() []string {
	r := rand.New(rand.NewSource(1))
	var out []string
	for _, n := range []int{0, 1, 2, 63, 64, 65, 66, 127, 128, 129, 256, 257, 1023, 1024, 1025, 2048, 2049, 5000, 20000} {
		out = append(out, countUp(n), scattered(n), drawn(r, n), repeated('a', n), repeated(0, n), repeated(37, n), repeated(240, n))
	}
	return out
}

// head keeps what a failed test tells short.
func head(s string) string { return s[:min(len(s), 20)] }

// heads tells ids by their first digits.
func heads(ids []string) string {
	var out []string
	for _, s := range ids {
		out = append(out, hexOf(s)[:min(2*len(s), 8)])
	}
	return strings.Join(out, " ")
}

func idsOf(parts ...api.Part) []string {
	var out []string
	for _, p := range parts {
		out = append(out, p.Id)
	}
	return out
}

func wantAsked(t *testing.T, what string, s *shelf, want ...string) {
	t.Helper()
	if !slices.Equal(s.asked, want) {
		t.Errorf("%s: asked for %d (%s); want %d (%s)", what, len(s.asked), heads(s.asked), len(want), heads(want))
	}
}

// wantBuilt asks Build for what the model makes.
func wantBuilt(t *testing.T, what, data string) {
	t.Helper()
	root, objs, e := blob.Build(data)
	wantMade(t, "Build "+what, root, objs, e, data)
}

// wantMade holds an answer against the objects that a file must have.
func wantMade(t *testing.T, what string, root api.Part, objs []api.Object, e api.Errno, data string) {
	t.Helper()
	want, all := plainBuild(data)
	if e != api.OK || root != want {
		t.Errorf("%s: %d, %x of %d bytes; want %x of %d", what, e, root.Id, root.Size, want.Id, want.Size)
	}
	if !slices.Equal(objs, all) {
		t.Errorf("%s: %d objects; want %d", what, len(objs), len(all))
	}
}

// wantNoFile asks for an error and for nothing beside it.
func wantNoFile(t *testing.T, what string, root api.Part, objs []api.Object, e, want api.Errno) {
	t.Helper()
	if e != want || root != (api.Part{}) || len(objs) != 0 {
		t.Errorf("%s: %d, %v, %d objects; want %d alone", what, e, root, len(objs), want)
	}
}

// wantRead asks for bytes and for what is asked, as the model says.
func wantRead(t *testing.T, what string, s *shelf, root api.Part, from, n int64) {
	t.Helper()
	s.asked = nil
	got, e := blob.Read(s.get, root, from, n)
	want := plainRead(s, root, from, n)
	if e != want.e || got != want.data {
		t.Errorf("%s: Read(%d, %d): %d, %d bytes %q; want %d, %d bytes %q", what, from, n, e, len(got), head(got), want.e, len(want.data), head(want.data))
	}
	wantAsked(t, what+": Read", s, want.asked...)
}

// wantReadError asks for an error, and for nothing beside it.
func wantReadError(t *testing.T, what string, s *shelf, root api.Part, from, n int64, want api.Errno) {
	t.Helper()
	if got, e := blob.Read(s.get, root, from, n); e != want || got != "" {
		t.Errorf("%s: Read(%d, %d): %d, %q; want %d alone", what, from, n, e, head(got), want)
	}
	wantRead(t, what, s, root, from, n)
}

// wantSpliced asks for the changed file, and for what is asked, as the model says.
func wantSpliced(t *testing.T, what string, s *shelf, root api.Part, from, n int64, data string) {
	t.Helper()
	s.asked = nil
	p, objs, e := blob.Splice(s.get, root, from, n, data)
	want := plainSplice(s, root, from, n, data)
	if want.e != api.OK {
		wantNoFile(t, what+": Splice", p, objs, e, want.e)
	} else {
		wantMade(t, what+": Splice", p, objs, e, want.data)
	}
	wantAsked(t, what+": Splice", s, want.asked...)
}

// wantChunks asks for the chunks, and for what is asked, as the model says.
func wantChunks(t *testing.T, what string, s *shelf, root api.Part) {
	t.Helper()
	s.asked = nil
	got, e := blob.Chunks(s.get, root)
	want := plainChunks(s, root)
	if e != want.e || !slices.Equal(got, want.parts) {
		t.Errorf("%s: Chunks: %d, %d parts; want %d, %d", what, e, len(got), want.e, len(want.parts))
	}
	wantAsked(t, what+": Chunks", s, want.asked...)
}
