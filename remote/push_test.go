package remote_test

import (
	"slices"
	"strings"
	"testing"

	"tussock/api"
	"tussock/remote"
)

// P17.5: objects that are not right, at each place: nothing is sent.
func TestPushOfWrongObjects(t *testing.T) {
	s := newScripted(t, 3)
	for _, o := range wrongObjects() {
		for _, many := range []int{1, 2, 65, 130} {
			for _, at := range []int{0, many / 2, many - 1} {
				l := numbered(many)
				l[at] = o
				wantPush(t, s.Client, l, api.ErrRemoteForm, 3)
			}
		}
	}
	a := of("a")
	wantPush(t, s.Client, list(a, api.Object{Id: a.Id, Bytes: "b"}), api.ErrRemoteForm, 3) // even if a right one has this id
	wantPush(t, s.Client, list(api.Object{Id: a.Id, Bytes: "b"}, a), api.ErrRemoteForm, 3)
	s.wantWent(t)
}

// P17.5: of none nothing is sent; of n objects a frame for each 64, and the last one of what is left.
func TestPushOfPieces(t *testing.T) {
	for _, n := range []int{0, 1, 2, 63, 64, 65, 127, 128, 129, 200} {
		objs := numbered(n)
		server := remote.NewServer()
		c := remote.NewClient(serving(t, server), 0)
		wantPush(t, c, objs, api.OK, int64((n+63)/64))
		wantIds(t, server, objs...)
	}
	objs := numbered(129)
	s := newScripted(t, 5, frames(ack(6, idsOf(objs[:64]...)...)), frames(ack(7, idsOf(objs[64:128]...)...)), frames(ack(8, idsOf(objs[128:]...)...)))
	wantPush(t, s.Client, objs, api.OK, 8)
	s.wantWent(t, push(6, objs[:64]...), push(7, objs[64:128]...), push(8, objs[128:]...))
}

// P17.5: each object once, as it is told first: within a piece, and across pieces.
func TestPushOfObjectsTwice(t *testing.T) {
	objs := numbered(66)
	for _, x := range []struct{ objs, want []api.Object }{
		{slices.Concat(objs[:1], objs[:1]), objs[:1]},
		{slices.Concat(objs[:3], objs[1:2], objs[:3], objs[3:5]), objs[:5]},
		{slices.Concat(objs[:64], objs[:64]), objs[:64]},
		{slices.Concat(objs[:64], objs[:1], objs[64:65], objs[63:64], objs[64:66]), objs},
		{slices.Concat(slices.Repeat(objs[:1], 200), objs), objs},
	} {
		s := newScripted(t, 0, frames(ack(1, idsOf(x.want[:min(64, len(x.want))]...)...)), frames(ack(2, idsOf(x.want[min(64, len(x.want)):]...)...)))
		wentWant := []api.Frame{push(1, x.want[:min(64, len(x.want))]...)}
		if len(x.want) > 64 {
			wentWant = append(wentWant, push(2, x.want[64:]...))
		}
		wantPush(t, s.Client, x.objs, api.OK, int64(len(wentWant)))
		s.wantWent(t, wentWant...)
	}
}

// P17.5: what is kept is not sent again; those that are not are, in order.
func TestPushSendsTheRest(t *testing.T) {
	a, b, c, d := of("a"), of("b"), of("c"), of("d")
	s := newScripted(t, 0,
		frames(ack(1, c.Id)),
		nil,
		frames(ack(3, a.Id, c.Id)),
		frames(ack(4)),
		frames(ack(5, d.Id), ack(5, b.Id)),
	)
	wantPush(t, s.Client, list(d, a, c, b), api.OK, 5)
	s.wantWent(t, push(1, d, a, c, b), push(2, d, a, b), push(3, d, a, b), push(4, d, b), push(5, d, b))
}

// P17.5: a WAck counts whatever its Number; ids that nobody told make no difference.
func TestPushOfOtherNumbers(t *testing.T) {
	a, x := of("a"), of("x")
	for _, number := range []int64{1, 9, 10, 11, 12, 1000, 1 << 62} {
		s := newScripted(t, 10, frames(ack(number, x.Id)), frames(ack(number, x.Id, a.Id, a.Id)))
		wantPush(t, s.Client, list(a), api.OK, 12)
		s.wantWent(t, push(11, a), push(12, a))
	}
}

// P17.5: an object of another piece is kept, too, when that is said early: it is not sent, and a piece all of which are kept not at all.
func TestPushOfWhatIsKeptEarly(t *testing.T) {
	objs := numbered(130)
	all := idsOf(objs...)
	s := newScripted(t, 0,
		frames(ack(1, all[:63]...), ack(7, all[64:128]...), ack(1, all[128])),
		frames(ack(2, all[63])),
		frames(ack(3, all[129])),
	)
	wantPush(t, s.Client, objs, api.OK, 3)
	s.wantWent(t, push(1, objs[:64]...), push(2, objs[63]), push(3, objs[129]))
	s = newScripted(t, 0, frames(ack(1, all[64:128]...), ack(1, all[:64]...), ack(1, all[128:]...)))
	wantPush(t, s.Client, objs, api.OK, 1)
}

// P17.5: what comes back and is no frame, or no WAck, is passed over: also a WHave that has the object, or says that it is not there.
func TestPushOfOtherFrames(t *testing.T) {
	a := of("a")
	turned := []byte(plainText(ack(1, a.Id)))
	turned[9] ^= 1
	row := append(frames(have(1, list(a)), have(1, nil, a.Id), want(1, a.Id), push(1, a), ack(1)), "x", string(turned), plainText(ack(0, a.Id)), plainText(ack(1<<62+1, a.Id)), plainText(ack(1, slices.Repeat(idsOf(a), 65)...)))
	s := newScripted(t, 0, row, row, append(row, plainText(ack(3, a.Id))))
	wantPush(t, s.Client, list(a), api.OK, 3)
	s.wantWent(t, push(1, a), push(2, a), push(3, a))
}

// P17.5: it sends 8 for a piece, and no more; with the eighth answer it is still kept.
func TestPushSendsEight(t *testing.T) {
	a := of("a")
	sent := manyFrames(1, 8, func(n int64) api.Frame { return push(n, a) })
	for n := range 10 {
		var plan [][]string
		for range n {
			plan = append(plan, nil)
		}
		s := newScripted(t, 0, append(slices.Clip(plan), frames(ack(int64(n+1), a.Id)))...)
		if n < 8 {
			wantPush(t, s.Client, list(a), api.OK, int64(n+1))
		} else {
			wantPush(t, s.Client, list(a), api.ErrRemoteUnavailable, 8)
		}
		s.wantWent(t, sent[:min(n+1, 8)]...)
	}
}

// P17.5: 8 for each piece: what was sent for one does not count for the next one; that some are kept does not begin it anew.
func TestPushSendsEightForEachPiece(t *testing.T) {
	objs := numbered(129)
	var plan [][]string
	for i := range 3 {
		plan = append(plan, nil, nil, nil, nil, nil, nil, nil, frames(ack(1, idsOf(objs[64*i:min(64*i+64, 129)]...)...)))
	}
	s := newScripted(t, 0, plan...)
	wantPush(t, s.Client, objs, api.OK, 24)

	plan = nil
	for i := range 8 {
		plan = append(plan, frames(ack(1, objs[i].Id)))
	}
	s = newScripted(t, 0, plan...)
	wantPush(t, s.Client, objs[:9], api.ErrRemoteUnavailable, 8)
	s = newScripted(t, 0, plan...)
	wantPush(t, s.Client, objs[:8], api.OK, 8)

	s = newScripted(t, 0, frames(ack(1, idsOf(objs[:64]...)...)))
	wantPush(t, s.Client, objs, api.ErrRemoteUnavailable, 9)
	s.wantWent(t, append([]api.Frame{push(1, objs[:64]...)}, manyFrames(2, 8, func(n int64) api.Frame { return push(n, objs[64:128]...) })...)...)
}

// P17.5: nothing is left of an earlier call but its numbers: what was kept is sent again, and asked for anew.
func TestPushAgain(t *testing.T) {
	a, b := of("a"), of("b")
	s := newScripted(t, 0, frames(ack(1, a.Id, b.Id)), nil, frames(ack(3, a.Id)))
	wantPush(t, s.Client, list(a), api.OK, 1)
	wantPush(t, s.Client, list(a), api.OK, 3)
	wantPush(t, s.Client, list(b), api.ErrRemoteUnavailable, 11)
	// Neither does a Push hear what a Fetch ahead was told, nor the other way round.
	s = newScripted(t, 0, frames(have(1, list(a)), ack(1, b.Id)), frames(ack(2, a.Id), have(2, list(b))), frames(ack(3, b.Id)), frames(have(4, list(b))))
	wantFetch(t, s.Client, idsOf(a), list(a), api.OK, 1)
	wantPush(t, s.Client, list(a), api.OK, 2)
	wantPush(t, s.Client, list(b), api.OK, 3)
	wantFetch(t, s.Client, idsOf(b), list(b), api.OK, 4)
}

// P17.5: objects that the server has are pushed and kept as all others.
func TestPushOfWhatIsThere(t *testing.T) {
	objs := numbered(70)
	server := remote.NewServer(objs[:65]...)
	c := remote.NewClient(serving(t, server), 0)
	wantPush(t, c, objs[60:], api.OK, 1)
	wantIds(t, server, objs...)
	wantPush(t, c, objs, api.OK, 3)
	wantIds(t, server, objs...)
	wantFetch(t, c, idsOf(objs...), objs, api.OK, 5)
}

// P17.5: objects of no bytes, and full pieces of the greatest.
func TestPushOfGreatObjects(t *testing.T) {
	objs := list(of(""))
	for _, b := range manyTexts(64, 32768) {
		objs = append(objs, of(b))
	}
	server := remote.NewServer()
	c := remote.NewClient(serving(t, server), 0)
	wantPush(t, c, objs, api.OK, 2)
	wantIds(t, server, objs...)
	wantFetch(t, c, idsOf(objs...), objs, api.OK, 4)
	wantPush(t, c, append(objs, of(strings.Repeat("x", 32769))), api.ErrRemoteForm, 4)
}

// P17.5: which frames go out when those there or back are lost: what was pushed by a frame whose answer was lost is pushed again.
func TestPushOverALosingNet(t *testing.T) {
	a, b := of("a"), of("b")
	server := remote.NewServer()
	c := remote.NewClient(serving(t, server, fates("lplpt")...), 0)
	wantPush(t, c, list(a, b), api.OK, 4) // lost there; lost back; turned back
	wantIds(t, server, a, b)
	server = remote.NewServer()
	c = remote.NewClient(serving(t, server, fates("plplplplplplplpl")...), 0)
	wantPush(t, c, list(a, b), api.ErrRemoteUnavailable, 8)
	wantIds(t, server, a, b) // it is there, though nobody heard so
}
