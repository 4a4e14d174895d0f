package remote_test

import (
	"encoding/hex"
	"fmt"
	"slices"
	"strings"
	"testing"

	"tussock/api"
	"tussock/net"
	"tussock/remote"
)

var (
	pass  = api.Fate{Kind: api.FPass}
	lose  = api.Fate{Kind: api.FLose}
	hold  = api.Fate{Kind: api.FHold}
	twice = api.Fate{Kind: api.FTwice}
)

func turn(at int, by byte) api.Fate { return api.Fate{Kind: api.FTurn, At: at, By: by} }

// fates reads one a letter: p, l, h, 2; t turns one of the first bytes.
func fates(letters string) []api.Fate {
	var out []api.Fate
	for i, c := range letters {
		out = append(out, map[rune]api.Fate{'p': pass, 'l': lose, 'h': hold, '2': twice, 't': turn(i%7, byte(1+i))}[c])
	}
	return out
}

// of is the object of some bytes.
func of(s string) api.Object { return api.Object{Id: plainSum(s), Bytes: s} }

// numbered are n objects, each another one.
func numbered(n int) []api.Object {
	var out []api.Object
	for i := range n {
		out = append(out, of(fmt.Sprintf("the object %d", i)))
	}
	return out
}

func idsOf(objs ...api.Object) []string {
	var out []string
	for _, o := range objs {
		out = append(out, o.Id)
	}
	return out
}

func bytesOf(objs ...api.Object) []string {
	var out []string
	for _, o := range objs {
		out = append(out, o.Bytes)
	}
	return out
}

func want(number int64, ids ...string) api.Frame {
	return api.Frame{Kind: api.WWant, Number: number, Ids: ids}
}

func have(number int64, objs []api.Object, ids ...string) api.Frame {
	return api.Frame{Kind: api.WHave, Number: number, Objs: bytesOf(objs...), Ids: ids}
}

func push(number int64, objs ...api.Object) api.Frame {
	return api.Frame{Kind: api.WPush, Number: number, Objs: bytesOf(objs...)}
}

func ack(number int64, ids ...string) api.Frame {
	return api.Frame{Kind: api.WAck, Number: number, Ids: ids}
}

func list(objs ...api.Object) []api.Object { return objs }

// frames are the bytes of some.
func frames(list ...api.Frame) []string {
	var out []string
	for _, f := range list {
		out = append(out, plainText(f))
	}
	return out
}

// scripted is a client on a net on which others say what comes back of each frame: a row of texts, which may be empty. What goes out is noted.
type scripted struct {
	*remote.Client
	net  *net.Net
	plan [][]string
	went []string
}

// newScripted has those of a row that come behind the first one wait ahead of it on the way back: who serves asks for them in between.
func newScripted(t testing.TB, last int64, plan ...[]string) *scripted {
	t.Helper()
	s := &scripted{plan: plan}
	var l []api.Fate
	for _, row := range plan {
		l = append(l, pass)
		for range len(row) - 1 {
			l = append(l, pass, hold)
		}
		if len(row) > 0 {
			l = append(l, pass)
		}
	}
	var err api.Errno
	s.net, err = net.New(s.serve, l...)
	s.Client = remote.NewClient(s.net, last)
	if err != api.OK || s.Client == nil {
		t.Fatalf("New: %d, %v", err, s.Client)
	}
	return s
}

func (s *scripted) serve(frame string) string {
	if inner, ok := strings.CutPrefix(frame, "wait:"); ok {
		return inner
	}
	s.went = append(s.went, frame)
	if len(s.plan) == 0 {
		return ""
	}
	row := s.plan[0]
	s.plan = s.plan[1:]
	if len(row) == 0 {
		return ""
	}
	for _, text := range row[1:] {
		s.net.Ask("wait:" + text)
	}
	return row[0]
}

// wantWent asks which frames went out since the last time.
func (s *scripted) wantWent(t testing.TB, want ...api.Frame) {
	t.Helper()
	wantTexts(t, "frames that went out", s.went, frames(want...))
	s.went = nil
}

// wantFetch asks what Fetch answers, and which number it leaves.
func wantFetch(t testing.TB, c *remote.Client, ids []string, want []api.Object, wantE api.Errno, last int64) {
	t.Helper()
	got, e := c.Fetch(ids...)
	if e != wantE || !slices.Equal(got, want) {
		t.Errorf("Fetch(%s): %s, %d; want %s, %d", heads(ids), toldObjects(got), e, toldObjects(want), wantE)
	}
	wantLast(t, c, last)
}

func wantPush(t testing.TB, c *remote.Client, objs []api.Object, wantE api.Errno, last int64) {
	t.Helper()
	if e := c.Push(objs...); e != wantE {
		t.Errorf("Push(%s): %d; want %d", toldObjects(objs), e, wantE)
	}
	wantLast(t, c, last)
}

func wantLast(t testing.TB, c *remote.Client, last int64) {
	t.Helper()
	if n := c.Last(); n != last {
		t.Errorf("Last: %d; want %d", n, last)
	}
}

// wantIds asks what a server has.
func wantIds(t testing.TB, s *remote.Server, want ...api.Object) {
	t.Helper()
	ids := idsOf(want...)
	slices.Sort(ids)
	wantTexts(t, "Ids", s.Ids(), slices.Compact(ids))
}

// wantServe asks what a server answers to a frame.
func wantServe(t testing.TB, s *remote.Server, f, want api.Frame) {
	t.Helper()
	wantText(t, "Serve("+toldFrame(f)+")", s.Serve(plainText(f)), plainText(want))
}

// wantText and wantTexts tell frames as what they say.
func wantText(t testing.TB, what, got, want string) {
	t.Helper()
	if got != want {
		t.Errorf("%s: %s; want %s", what, told(got), told(want))
	}
}

func wantTexts(t testing.TB, what string, got, want []string) {
	t.Helper()
	if !slices.Equal(got, want) {
		t.Errorf("%s: %s; want %s", what, heads(got), heads(want))
	}
}

func sameFrame(a, b api.Frame) bool {
	return a.Kind == b.Kind && a.Number == b.Number && slices.Equal(a.Ids, b.Ids) && slices.Equal(a.Objs, b.Objs)
}

// told and those behind it keep what a failed test tells short.
func told(s string) string {
	if f, ok := plainFrame(s); ok {
		return toldFrame(f)
	}
	return head(s)
}

func toldFrame(f api.Frame) string {
	return fmt.Sprintf("{%d, Number %d, Objs %s, Ids %s}", f.Kind, f.Number, heads(f.Objs), heads(f.Ids))
}

func toldObjects(l []api.Object) string {
	return heads(bytesOf(l...))
}

func head(s string) string {
	for _, c := range []byte(s) {
		if c < ' ' || c > '~' {
			return hex.EncodeToString([]byte(s[:min(len(s), 6)])) + ".."
		}
	}
	return fmt.Sprintf("%q", s[:min(len(s), 20)])
}

func heads(l []string) string {
	var out []string
	for _, s := range l[:min(len(l), 6)] {
		if f, ok := plainFrame(s); ok {
			out = append(out, toldFrame(f))
		} else {
			out = append(out, head(s))
		}
	}
	return fmt.Sprintf("%d of them, %s", len(l), strings.Join(out, ", "))
}
