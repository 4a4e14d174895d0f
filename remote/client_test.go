package remote_test

import (
	"math"
	"slices"
	"testing"

	"tussock/api"
	"tussock/net"
	"tussock/remote"
)

// serving is a net on which a server serves.
func serving(t testing.TB, s *remote.Server, fates ...api.Fate) *net.Net {
	t.Helper()
	n, e := net.New(s.Serve, fates...)
	if e != api.OK {
		t.Fatal(e)
	}
	return n
}

// The chapter's examples.
func TestExamples(t *testing.T) {
	abc := of("abc")
	s := remote.NewServer(abc)
	c := remote.NewClient(serving(t, s, lose), 0)
	wantFetch(t, c, idsOf(abc), list(abc), api.OK, 2)
	wantFetch(t, c, idsOf(of("nothing")), nil, api.ErrRemoteNone, 3)
	wantFetch(t, c, []string{"x"}, nil, api.ErrRemoteForm, 3)
	c = remote.NewClient(serving(t, s, fates("llllllll")...), 0)
	wantFetch(t, c, idsOf(abc), nil, api.ErrRemoteUnavailable, 8)
	wantFetch(t, c, idsOf(abc), list(abc), api.OK, 9)
}

// P17.3: where a client may begin.
func TestNewClient(t *testing.T) {
	n := serving(t, remote.NewServer(of("a")))
	for _, last := range []int64{0, 1, 2, 1000, 1 << 32, 1<<61 - 1, 1 << 61} {
		c := remote.NewClient(n, last)
		if c == nil {
			t.Fatalf("NewClient(%d): nil", last)
		}
		wantLast(t, c, last)
	}
	for _, last := range []int64{-1, -2, math.MinInt64, 1<<61 + 1, 1 << 62, math.MaxInt64} {
		if c := remote.NewClient(n, last); c != nil {
			t.Errorf("NewClient(%d): %v", last, c)
		}
	}
	for _, last := range []int64{-1, 0, 1, 1 << 61, 1<<61 + 1} {
		if c := remote.NewClient(nil, last); c != nil {
			t.Errorf("NewClient(nil, %d): %v", last, c)
		}
	}
	if n.Sent() != 0 {
		t.Errorf("%d frames went", n.Sent())
	}
}

// P17.3 to P17.5, R4: a nil client, and one that NewClient did not give: ErrNil stands ahead of all else.
func TestClientsThatNewClientDidNotGive(t *testing.T) {
	for _, c := range []*remote.Client{nil, {}, new(remote.Client)} {
		for _, l := range [][]string{nil, ids(1), {"x"}, ids(65)} {
			wantFetch(t, c, l, nil, api.ErrNil, 0)
		}
		for _, l := range [][]api.Object{nil, list(of("a")), wrongObjects()} {
			wantPush(t, c, l, api.ErrNil, 0)
		}
	}
}

// P17.3: each frame has the number behind the last one, in Fetch and Push alike, from wherever a client begins; calls that send none leave it.
func TestNumbers(t *testing.T) {
	a, b, x := of("a"), of("b"), of("x")
	for _, last := range []int64{0, 1, 62, 63, 64, 1 << 40, 1<<61 - 1, 1 << 61} {
		s := newScripted(t, last,
			frames(have(last+1, list(a))),
			frames(ack(last+2, b.Id)),
			nil,
			frames(have(last+4, nil, x.Id)),
			nil,
			frames(ack(last+6, a.Id)),
		)
		wantFetch(t, s.Client, idsOf(a), list(a), api.OK, last+1)
		wantPush(t, s.Client, list(b), api.OK, last+2)
		wantFetch(t, s.Client, nil, nil, api.OK, last+2)
		wantPush(t, s.Client, nil, api.OK, last+2)
		wantFetch(t, s.Client, idsOf(x), nil, api.ErrRemoteNone, last+4)
		wantFetch(t, s.Client, []string{x.Id, ""}, nil, api.ErrRemoteForm, last+4)
		wantPush(t, s.Client, wrongObjects()[:1], api.ErrRemoteForm, last+4)
		wantPush(t, s.Client, list(a), api.OK, last+6)
		s.wantWent(t, want(last+1, a.Id), push(last+2, b), want(last+3, x.Id), want(last+4, x.Id), push(last+5, a), push(last+6, a))
	}
}

// P17.3: Last is that of the frame that is under way, for who serves, too; and asking for it changes nothing.
func TestLastWhileServed(t *testing.T) {
	var c *remote.Client
	var seen []int64
	server := remote.NewServer(of("a"))
	n, _ := net.New(func(frame string) string {
		seen = append(seen, c.Last())
		return server.Serve(frame)
	}, fates("plhpp")...)
	c = remote.NewClient(n, 10)
	wantFetch(t, c, idsOf(of("a")), list(of("a")), api.OK, 13)
	for range 5 {
		wantLast(t, c, 13)
	}
	if !slices.Equal(seen, []int64{11, 13, 13}) {
		t.Errorf("Last while served: %d", seen)
	}
}

// R4: two clients on one net, each with its own numbers: who asks gets what comes back meanwhile, whoever it was for.
func TestTwoClients(t *testing.T) {
	a, b := of("a"), of("b")
	n := serving(t, remote.NewServer(a, b))
	one, other := remote.NewClient(n, 0), remote.NewClient(n, 100)
	wantFetch(t, one, idsOf(a), list(a), api.OK, 1)
	wantFetch(t, other, idsOf(b), list(b), api.OK, 101)
	wantFetch(t, one, idsOf(a, b), list(a, b), api.OK, 2)
	if n.Sent() != 3 {
		t.Errorf("%d frames went", n.Sent())
	}
}

// R4: what was said to another client, and comes late, is believed by its Number alone.
func TestLateAnswersToAnotherClient(t *testing.T) {
	x := of("x")
	for last, want := range map[int64]api.Errno{0: api.ErrRemoteNone, 100: api.OK} {
		s := remote.NewServer()
		n := serving(t, s, append(fates("phlllllllp"), turn(0, 1))...)
		wantFetch(t, remote.NewClient(n, 0), idsOf(x), nil, api.ErrRemoteUnavailable, 8) // that it is not there waits
		s.Serve(plainText(push(1, x)))
		other := remote.NewClient(n, last)
		if _, e := other.Fetch(x.Id); e != want {
			t.Errorf("begun at %d: %d; want %d", last, e, want)
		}
	}
}

// R1, R4: a net that New did not give takes no frame.
func TestNetThatNewDidNotGive(t *testing.T) {
	c := remote.NewClient(&net.Net{}, 5)
	wantFetch(t, c, ids(1), nil, api.ErrRemoteUnavailable, 13)
	wantPush(t, c, list(of("a")), api.ErrRemoteUnavailable, 21)
}

// R1: a net on which nobody ever answers, or only what is no frame.
func TestNobodyAnswers(t *testing.T) {
	for _, answer := range []string{"", "x", plainText(want(1, ids(1)...)), plainText(push(1, of("a"))), plainText(have(1, nil)), plainText(ack(1))} {
		n, _ := net.New(func(string) string { return answer })
		c := remote.NewClient(n, 0)
		wantFetch(t, c, idsOf(of("a")), nil, api.ErrRemoteUnavailable, 8)
		wantPush(t, c, list(of("a")), api.ErrRemoteUnavailable, 16)
		wantFetch(t, c, ids(200), nil, api.ErrRemoteUnavailable, 24)
		wantPush(t, c, numbered(200), api.ErrRemoteUnavailable, 32)
		wantFetch(t, c, nil, nil, api.OK, 32)
		wantPush(t, c, nil, api.OK, 32)
	}
}
