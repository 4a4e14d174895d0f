package remote_test

import (
	"slices"
	"strings"
	"testing"
	"unsafe"

	"tussock/api"
	"tussock/net"
	"tussock/remote"
)

// lender hands out texts that their owner changes afterwards all the same.
type lender struct{ lent [][]byte }

func (l *lender) lend(s string) string {
	b := []byte(s)
	l.lent = append(l.lent, b)
	return unsafe.String(unsafe.SliceData(b), len(b))
}

// takeBack writes over all that was lent.
func (l *lender) takeBack() {
	for _, b := range l.lent {
		for i := range b {
			b[i] = '!'
		}
	}
	l.lent = nil
}

// texts and objects are such with lent texts, and spare room that is not theirs.
func (l *lender) texts(list ...string) []string {
	var out []string
	for _, s := range list {
		out = append(out, l.lend(s))
	}
	return append(out, "spare", "room")[:len(list)]
}

func (l *lender) objects(list ...api.Object) []api.Object {
	var out []api.Object
	for _, o := range list {
		out = append(out, api.Object{Id: l.lend(o.Id), Bytes: l.lend(o.Bytes)})
	}
	return append(out, of("spare"), of("room"))[:len(list)]
}

// wantAsItWas asks that a list, and its spare room, is what it was.
func wantAsItWas[T comparable](t *testing.T, list, was []T) {
	t.Helper()
	if !slices.Equal(list[:cap(list)], was) {
		t.Errorf("what was handed in is not what it was: %v; want %v", list[:cap(list)], was)
	}
}

// R3: frames that are handed in are neither written into nor kept; nor are bytes.
func TestFramesAreTheCallers(t *testing.T) {
	for _, f := range []api.Frame{want(1, ids(3)...), have(2, list(of("a"), of("")), ids(2)...), push(3, of("one"), of("two")), ack(4, ids(2)...)} {
		var l lender
		given := api.Frame{Kind: f.Kind, Number: f.Number, Ids: l.texts(f.Ids...), Objs: l.texts(f.Objs...)}
		wasIds, wasObjs := slices.Clone(given.Ids[:cap(given.Ids)]), slices.Clone(given.Objs[:cap(given.Objs)])
		s, e := remote.Encode(given)
		wantAsItWas(t, given.Ids, wasIds)
		wantAsItWas(t, given.Objs, wasObjs)
		l.takeBack()
		if e != api.OK || s != plainText(f) {
			t.Errorf("Encode: %s, %d; want %s", told(s), e, toldFrame(f))
		}
		got, e := remote.Decode(l.lend(s))
		l.takeBack()
		if e != api.OK || !sameFrame(got, f) {
			t.Errorf("Decode: %s, %d; want %s", toldFrame(got), e, toldFrame(f))
		}
	}
}

// R3: what is answered is the caller's alone: the lists of a frame share nothing, their spare room neither.
func TestFramesAreNew(t *testing.T) {
	f := have(2, list(of("a"), of("b"), of("c")), ids(3)...)
	s := plainText(f)
	one, _ := remote.Decode(s)
	other, _ := remote.Decode(s)
	for _, l := range [][]string{one.Ids, one.Objs} {
		l = append(l, slices.Repeat([]string{"more"}, cap(l)-len(l))...)
		for i := range l {
			l[i] = "spoilt"
		}
		if !slices.Equal(other.Ids, f.Ids) || !slices.Equal(other.Objs, f.Objs) {
			t.Errorf("%s; want %s", toldFrame(other), toldFrame(f))
		}
	}
	one, _ = remote.Decode(s)
	one.Ids = append(one.Ids[:0], "x", "y", "z", "w")
	if !slices.Equal(one.Objs, f.Objs) {
		t.Errorf("Objs: %s", heads(one.Objs))
	}
	wantDecode(t, s, f)
}

// R3: a server keeps nothing of what it is handed, and hands out nothing of what it keeps.
func TestServerKeepsItsOwn(t *testing.T) {
	a, b, c := of("a"), of("b"), of("the object c")
	var l lender
	given := l.objects(a, b)
	was := slices.Clone(given[:cap(given)])
	s := remote.NewServer(given...)
	wantAsItWas(t, given, was)
	l.takeBack()
	clear(given[:cap(given)])
	wantIds(t, s, a, b)
	wantServe(t, s, want(1, a.Id, b.Id), have(1, list(a, b)))

	told := s.Serve(l.lend(plainText(push(2, c, a))))
	l.takeBack()
	wantText(t, "Serve", told, plainText(ack(2, c.Id, a.Id)))
	wantIds(t, s, a, b, c)
	told = s.Serve(l.lend(plainText(want(3, c.Id, of("x").Id))))
	l.takeBack()
	wantText(t, "Serve", told, plainText(have(3, list(c), of("x").Id)))

	got := s.Ids()
	clear(got[:cap(got)])
	wantIds(t, s, a, b, c)
	wantServe(t, s, want(1, a.Id, b.Id, c.Id), have(1, list(a, b, c)))
}

// R3: of an Ids the texts are new ones, too.
func TestIdsAreNew(t *testing.T) {
	s := remote.NewServer(of("a"))
	one, other := s.Ids()[0], s.Ids()[0]
	if unsafe.StringData(one) == unsafe.StringData(other) {
		t.Error("two answers share an id's bytes")
	}
}

// R3: ids that are handed to Fetch, and objects to Push, are neither written into nor kept; what Fetch answers is the caller's alone.
func TestClientKeepsNothing(t *testing.T) {
	objs := numbered(70)
	s := remote.NewServer()
	n := serving(t, s, fates("lpl2t2h")...)
	c := remote.NewClient(n, 0)
	var l lender
	given := l.objects(append(objs, objs[:5]...)...)
	was := slices.Clone(given[:cap(given)])
	if e := c.Push(given...); e != api.OK {
		t.Error(e)
	}
	wantAsItWas(t, given, was)
	l.takeBack()
	wantIds(t, s, objs...)
	for range 2 {
		asked := l.texts(append(idsOf(objs...), objs[3].Id)...)
		wasAsked := slices.Clone(asked[:cap(asked)])
		got, e := c.Fetch(asked...)
		wantAsItWas(t, asked, wasAsked)
		l.takeBack()
		clear(asked[:cap(asked)])
		if e != api.OK || !slices.Equal(got, objs) {
			t.Fatalf("Fetch: %s, %d", toldObjects(got), e)
		}
		clear(got[:cap(got)])
	}
}

// R3: bytes of what comes back are not kept either: nets hand on copies, but those of one text are pieces of it.
func TestObjectsAreNew(t *testing.T) {
	a, b := of(strings.Repeat("a", 100)), of(strings.Repeat("b", 100))
	c := remote.NewClient(serving(t, remote.NewServer(a, b)), 0)
	one, _ := c.Fetch(a.Id, b.Id)
	other, _ := c.Fetch(a.Id, b.Id)
	for i := range 2 {
		if unsafe.StringData(one[i].Bytes) == unsafe.StringData(other[i].Bytes) || unsafe.StringData(one[i].Id) == unsafe.StringData(other[i].Id) {
			t.Error("two answers share an object's bytes, or its id")
		}
	}
}

// R3: what is handed in may be changed as soon as the call has begun to send: who serves does so.
func TestListsThatAreChangedMeanwhile(t *testing.T) {
	objs := numbered(130)
	s := remote.NewServer()
	var asked []string
	var brought []api.Object
	n, _ := net.New(func(frame string) string {
		clear(asked)
		clear(brought)
		return s.Serve(frame)
	})
	c := remote.NewClient(n, 0)
	brought = slices.Clone(objs)
	if e := c.Push(brought...); e != api.OK {
		t.Error(e)
	}
	wantIds(t, s, objs...)
	asked = idsOf(objs...)
	if l, e := c.Fetch(asked...); e != api.OK || !slices.Equal(l, objs) {
		t.Errorf("Fetch: %s, %d", toldObjects(l), e)
	}
}

// R1, R4: who serves may ask by the same client: each call has its own numbers, pieces, answers.
func TestServeThatAsks(t *testing.T) {
	a, b, x := of("a"), of("b"), of("x")
	s := remote.NewServer(a, b)
	var c *remote.Client
	var within int
	n, _ := net.New(func(frame string) string {
		f, _ := plainFrame(frame)
		if f.Number == 1 {
			within++
			wantFetch(t, c, idsOf(b), list(b), api.OK, 2)
			wantFetch(t, c, idsOf(x), nil, api.ErrRemoteNone, 3)
			wantPush(t, c, list(x), api.OK, 4)
		}
		return s.Serve(frame)
	}, fates("pppppppl")...)
	c = remote.NewClient(n, 0)
	wantFetch(t, c, idsOf(a, b), list(a, b), api.OK, 5) // the answer to its first frame is lost
	if within != 1 {
		t.Errorf("%d times", within)
	}
}

// R4, P17.4: the numbers of a call within another one are not of this one.
func TestNumbersOfACallWithin(t *testing.T) {
	a := of("a")
	var c *remote.Client
	n, _ := net.New(func(frame string) string {
		f, _ := plainFrame(frame)
		switch f.Number {
		case 1:
			c.Push(a) // sends the frame 2
			return plainText(have(2, nil, a.Id))
		case 2:
			return plainText(ack(2, a.Id))
		}
		return plainText(have(3, list(a)))
	})
	c = remote.NewClient(n, 0)
	wantFetch(t, c, idsOf(a), list(a), api.OK, 3)
}
