package remote_test

import (
	"slices"
	"strings"
	"testing"

	"tussock/api"
	"tussock/remote"
)

// wrongObjects are such whose Id is not that of their bytes, or that have too many.
func wrongObjects() []api.Object {
	long := of(strings.Repeat("x", 32769))
	a, b := of("a"), of("b")
	return []api.Object{
		{}, {Id: a.Id}, {Bytes: "a"}, {Id: a.Id, Bytes: "b"}, {Id: b.Id, Bytes: ""},
		{Id: a.Id[:31], Bytes: "a"}, {Id: a.Id + "\x00", Bytes: "a"}, {Id: "a", Bytes: "a"},
		{Id: a.Id[:31] + string([]byte{a.Id[31] ^ 1}), Bytes: "a"}, {Id: string([]byte{a.Id[0] ^ 128}) + a.Id[1:], Bytes: "a"},
		long, {Id: a.Id, Bytes: long.Bytes},
	}
}

// P17.2: a server has those objects that are right, and no others; each is served.
func TestNewServer(t *testing.T) {
	a, b, empty, great := of("a"), of("b"), of(""), of(strings.Repeat("x", 32768))
	for _, x := range []struct{ given, has []api.Object }{
		{nil, nil},
		{list(a), list(a)},
		{list(empty), list(empty)},
		{list(great), list(great)},
		{list(b, a, great, empty), list(a, b, empty, great)},
		{list(a, a, a), list(a)},
		{list(a, api.Object{Id: a.Id, Bytes: "other"}), list(a)},
		{list(api.Object{Id: a.Id, Bytes: "other"}, a), list(a)},
		{wrongObjects(), nil},
		{slices.Concat(list(a), wrongObjects(), list(b)), list(a, b)},
	} {
		s := remote.NewServer(x.given...)
		wantIds(t, s, x.has...)
		for _, o := range list(a, b, empty, great, of("x")) {
			if slices.Contains(x.has, o) {
				wantServe(t, s, want(1, o.Id), have(1, list(o)))
			} else {
				wantServe(t, s, want(1, o.Id), have(1, nil, o.Id))
			}
		}
	}
	for _, o := range wrongObjects() {
		s := remote.NewServer(o)
		wantIds(t, s)
		if len(o.Id) == 32 {
			wantServe(t, s, want(1, o.Id), have(1, nil, o.Id))
		}
	}
	wantIds(t, remote.NewServer(numbered(1000)...), numbered(1000)...)
}

// P17.2: what is wanted, each once, in order: what it has, and what it has not.
func TestServeOfWants(t *testing.T) {
	a, b, c, x, y := of("a"), of("b"), of("c"), of("x"), of("y")
	s := remote.NewServer(a, b, c)
	for _, z := range []struct {
		ids  []string
		objs []api.Object
		not  []string
	}{
		{idsOf(a), list(a), nil},
		{idsOf(x), nil, idsOf(x)},
		{idsOf(b, a), list(b, a), nil},
		{idsOf(a, b), list(a, b), nil},
		{idsOf(y, x), nil, idsOf(y, x)},
		{idsOf(x, y), nil, idsOf(x, y)},
		{idsOf(y, c, x, a), list(c, a), idsOf(y, x)},
		{idsOf(a, a), list(a), nil},
		{idsOf(x, x, x), nil, idsOf(x)},
		{idsOf(c, x, a, x, c, y, b, c, y, a), list(c, a, b), idsOf(x, y)},
		{ids(64), nil, ids(64)},
	} {
		for _, number := range []int64{1, 2, 1000, 1 << 61, 1 << 62} {
			wantServe(t, s, want(number, z.ids...), have(number, z.objs, z.not...))
		}
	}
	wantIds(t, s, a, b, c) // asking leaves nothing behind
}

// P17.2: as many as a frame holds, of the greatest objects that there are.
func TestServeOfFullFrames(t *testing.T) {
	var great []api.Object
	for _, b := range manyTexts(64, 32768) {
		great = append(great, of(b))
	}
	s := remote.NewServer()
	wantServe(t, s, want(1, idsOf(great...)...), have(1, nil, idsOf(great...)...))
	wantServe(t, s, push(2, great...), ack(2, idsOf(great...)...))
	wantServe(t, s, want(3, idsOf(great...)...), have(3, great))
	wantIds(t, s, great...)
	half := slices.Concat(idsOf(great[:32]...), ids(32))
	wantServe(t, s, want(4, half...), have(4, great[:32], ids(32)...))
}

// P17.2: what is pushed is there, with all that was there ahead.
func TestServeOfPushes(t *testing.T) {
	a, b, c, d, empty := of("a"), of("b"), of("c"), of("d"), of("")
	s := remote.NewServer(a)
	for i, x := range []struct{ objs, told, has []api.Object }{
		{list(b), list(b), list(a, b)},
		{list(a), list(a), list(a, b)},
		{list(b, b), list(b), list(a, b)},
		{list(d, a, c, d, c), list(d, a, c), list(a, b, c, d)},
		{list(c), list(c), list(a, b, c, d)},
		{list(empty, a), list(empty, a), list(a, b, c, d, empty)},
	} {
		number := int64(1) << (10 * i)
		wantServe(t, s, push(number, x.objs...), ack(number, idsOf(x.told...)...))
		wantIds(t, s, x.has...)
		wantServe(t, s, want(1, idsOf(x.has...)...), have(1, x.has))
	}
	none := remote.NewServer()
	wantServe(t, none, push(1<<62, numbered(64)...), ack(1<<62, idsOf(numbered(64)...)...))
	wantIds(t, none, numbered(64)...)
}

// P17.2: what is pushed counts by its bytes: a server that was given a wrong object of that id has the right one now.
func TestPushOfWhatWasWrong(t *testing.T) {
	a := of("a")
	s := remote.NewServer(api.Object{Id: a.Id, Bytes: "other"})
	wantServe(t, s, want(1, a.Id), have(1, nil, a.Id))
	wantServe(t, s, push(2, a), ack(2, a.Id))
	wantServe(t, s, want(3, a.Id), have(3, list(a)))
	wantIds(t, s, a)
}

// P17.2: of all else nothing, and it changes nothing.
func TestServeOfAllElse(t *testing.T) {
	a, b := of("a"), of("b")
	s := remote.NewServer(a)
	texts := frames(
		have(1, nil), have(1, list(b)), have(1, list(a), b.Id), have(1, nil, ids(64)...), ack(1), ack(1, a.Id), ack(1, b.Id, a.Id),
		// what is not right, with a sum that fits
		want(1), want(0, a.Id), want(-1, a.Id), want(1<<62+1, a.Id), want(1, ids(65)...), want(1, a.Id[:31]),
		push(1), push(0, b), push(1<<62+1, b), push(1, numbered(65)...), push(1, of(strings.Repeat("x", 32769))),
		api.Frame{Kind: api.WWant, Number: 1, Ids: idsOf(a), Objs: bytesOf(b)}, api.Frame{Kind: api.WPush, Number: 1, Ids: idsOf(a), Objs: bytesOf(b)},
		api.Frame{Kind: 0, Number: 1, Ids: idsOf(a)}, api.Frame{Kind: 5, Number: 1, Ids: idsOf(a)}, api.Frame{Kind: 'Z', Number: 1, Objs: bytesOf(b)},
	)
	texts = append(texts, "", "a", "W", "P", strings.Repeat("x", 1000))
	for _, right := range frames(want(1, a.Id), push(1, b)) {
		for at := range len(right) {
			texts = append(texts, right[:at], right[:at]+right[at+1:], right[:at]+string([]byte{right[at] ^ 1})+right[at+1:])
		}
		texts = append(texts, right+"\x00", right+right)
	}
	for _, text := range texts {
		wantText(t, "Serve("+told(text)+")", s.Serve(text), "")
	}
	wantIds(t, s, a)
}

// P17.2, R4: a nil server, and one that NewServer did not give.
func TestServersThatNewServerDidNotGive(t *testing.T) {
	for _, s := range []*remote.Server{nil, {}, new(remote.Server)} {
		for range 2 {
			for _, text := range append(frames(want(1, of("a").Id), push(1, of("a")), have(1, nil), ack(1)), "", "x") {
				wantText(t, "Serve", s.Serve(text), "")
			}
			if l := s.Ids(); len(l) != 0 {
				t.Errorf("Ids: %s", heads(l))
			}
		}
	}
}

// R4: servers share nothing.
func TestTwoServers(t *testing.T) {
	a, b, c := of("a"), of("b"), of("c")
	objs := list(a, b)
	one, other := remote.NewServer(objs...), remote.NewServer(objs...)
	wantServe(t, one, push(1, c), ack(1, c.Id))
	wantIds(t, one, a, b, c)
	wantIds(t, other, a, b)
	wantServe(t, other, want(1, c.Id), have(1, nil, c.Id))
}

// P17.2: the same asked again is answered alike; a frame that comes twice makes no difference.
func TestServeAgain(t *testing.T) {
	a, b, c := of("a"), of("b"), of("c")
	s := remote.NewServer(a)
	for range 3 {
		wantServe(t, s, push(5, b, a), ack(5, b.Id, a.Id))
		wantServe(t, s, want(5, c.Id, b.Id), have(5, list(b), c.Id))
		wantIds(t, s, a, b)
	}
}
