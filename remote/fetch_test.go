package remote_test

import (
	"slices"
	"strings"
	"testing"

	"tussock/api"
	"tussock/remote"
)

// manyFrames are n frames of the same, with Numbers from one on.
func manyFrames(from int64, n int, make func(number int64) api.Frame) []api.Frame {
	var out []api.Frame
	for i := range n {
		out = append(out, make(from+int64(i)))
	}
	return out
}

// P17.4: ids of another length, at each place: nothing is asked.
func TestFetchOfWrongIds(t *testing.T) {
	s := newScripted(t, 3)
	for _, size := range []int{0, 1, 31, 33, 64} {
		for _, many := range []int{1, 2, 65, 130} {
			for _, at := range []int{0, many / 2, many - 1} {
				l := ids(many)
				l[at] = strings.Repeat("x", size)
				wantFetch(t, s.Client, l, nil, api.ErrRemoteForm, 3)
			}
		}
	}
	s.wantWent(t)
}

// P17.4: of none nothing is asked; of n objects a frame for each 64, and the last one of what is left.
func TestFetchOfPieces(t *testing.T) {
	for _, n := range []int{0, 1, 2, 63, 64, 65, 127, 128, 129, 200} {
		objs := numbered(n)
		server := remote.NewServer(objs...)
		c := remote.NewClient(serving(t, server), 0)
		wantFetch(t, c, idsOf(objs...), objs, api.OK, int64((n+63)/64))
	}
	objs := numbered(129)
	s := newScripted(t, 5, frames(have(6, objs[:64])), frames(have(7, objs[64:128])), frames(have(8, objs[128:])))
	wantFetch(t, s.Client, idsOf(objs...), objs, api.OK, 8)
	s.wantWent(t, want(6, idsOf(objs[:64]...)...), want(7, idsOf(objs[64:128]...)...), want(8, idsOf(objs[128:]...)...))
}

// P17.4: each id once, as it is told first: within a piece, and across pieces.
func TestFetchOfIdsTwice(t *testing.T) {
	objs := numbered(66)
	all := idsOf(objs...)
	for _, x := range []struct {
		ids  []string
		want []api.Object
	}{
		{slices.Concat(all[:1], all[:1]), objs[:1]},
		{slices.Concat(all[:2], all[:1]), objs[:2]},
		{slices.Concat(all[:3], all[1:2], all[:3], all[3:5]), objs[:5]},
		{slices.Concat(all[:64], all[:64]), objs[:64]},
		{slices.Concat(all[:64], all[:1], all[64:65], all[63:64], all[64:66]), objs},
		{slices.Concat(slices.Repeat(all[:1], 200), all), objs},
	} {
		s := newScripted(t, 0, frames(have(1, x.want[:min(64, len(x.want))])))
		s.plan = append(s.plan, frames(have(2, x.want[min(64, len(x.want)):])))
		wentWant := []api.Frame{want(1, idsOf(x.want[:min(64, len(x.want))]...)...)}
		if len(x.want) > 64 {
			wentWant = append(wentWant, want(2, idsOf(x.want[64:]...)...))
		}
		wantFetch(t, s.Client, x.ids, x.want, api.OK, int64(len(wentWant)))
		s.wantWent(t, wentWant...)
	}
}

// P17.4: the objects are told in the order of the ids, whichever came first.
func TestFetchTellsInOrder(t *testing.T) {
	a, b, c, d := of("a"), of("b"), of("c"), of("d")
	for _, order := range [][]api.Object{{a, b, c, d}, {d, c, b, a}, {c, a, d, b}} {
		for _, back := range [][]string{
			frames(have(1, list(a, b, c, d))),
			frames(have(1, list(d, b, a, c))),
			frames(have(1, list(b)), have(1, list(d, a)), have(1, list(c))),
		} {
			s := newScripted(t, 0, back)
			wantFetch(t, s.Client, idsOf(order...), order, api.OK, 1)
			s.wantWent(t, want(1, idsOf(order...)...))
		}
	}
}

// P17.4: what has come is not asked for again; those that have not come are, in order.
func TestFetchAsksForTheRest(t *testing.T) {
	a, b, c, d := of("a"), of("b"), of("c"), of("d")
	s := newScripted(t, 0,
		frames(have(1, list(c))),
		nil,
		frames(have(3, list(a, c))),
		frames(have(4, nil)),
		frames(have(5, list(d)), have(5, list(b))),
	)
	wantFetch(t, s.Client, idsOf(d, a, c, b), list(d, a, c, b), api.OK, 5)
	s.wantWent(t, want(1, idsOf(d, a, c, b)...), want(2, idsOf(d, a, b)...), want(3, idsOf(d, a, b)...), want(4, idsOf(d, b)...), want(5, idsOf(d, b)...))
}

// P17.4: objects come by any WHave, whatever its Number: a late one of an earlier call, another client's, one that was not sent yet.
func TestFetchOfOtherNumbers(t *testing.T) {
	a := of("a")
	for _, number := range []int64{1, 9, 10, 11, 12, 13, 1000, 1 << 62} {
		s := newScripted(t, 10, frames(have(number, list(a))))
		wantFetch(t, s.Client, idsOf(a), list(a), api.OK, 11)
		s.wantWent(t, want(11, a.Id))
	}
}

// P17.4: an object of another piece comes, too, when it is early: of that piece it is not asked for, and a piece all of which have come not at all.
func TestFetchOfEarlyObjects(t *testing.T) {
	objs := numbered(130)
	all := idsOf(objs...)
	s := newScripted(t, 0,
		frames(have(1, objs[:63]), have(7, objs[64:128]), have(1, objs[128:129])),
		frames(have(2, objs[63:64])),
		frames(have(3, objs[129:])),
	)
	wantFetch(t, s.Client, all, objs, api.OK, 3)
	s.wantWent(t, want(1, all[:64]...), want(2, all[63]), want(3, all[129]))

	s = newScripted(t, 0, frames(have(1, objs[64:128]), have(1, objs[:64]), have(1, objs[128:])))
	wantFetch(t, s.Client, all, objs, api.OK, 1)
	s.wantWent(t, want(1, all[:64]...))

	// Of an earlier piece: it can't be missing any more.
	s = newScripted(t, 0, frames(have(1, objs[:64])), frames(have(2, objs[:64]), have(2, objs[64:128])), frames(have(3, objs[:2]), have(3, objs[128:])))
	wantFetch(t, s.Client, all, objs, api.OK, 3)
	s.wantWent(t, want(1, all[:64]...), want(2, all[64:128]...), want(3, all[128:]...))
}

// P17.4: objects that nobody asked for, and bytes that have not the id, do not come; neither is an object taken by what it is said to be.
func TestFetchOfOtherObjects(t *testing.T) {
	a, b, x, y := of("a"), of("b"), of("x"), of("")
	s := newScripted(t, 0,
		frames(have(1, list(x, y))),
		frames(have(2, list(x, a, y))),
		frames(have(3, list(api.Object{Id: b.Id, Bytes: "B"})), ack(3, b.Id), push(3, b), want(3, b.Id)),
		frames(have(4, list(b, x))),
	)
	wantFetch(t, s.Client, idsOf(a, b), list(a, b), api.OK, 4)
	s.wantWent(t, want(1, a.Id, b.Id), want(2, a.Id, b.Id), want(3, b.Id), want(4, b.Id))
	s = newScripted(t, 0, frames(have(1, list(y)))) // the object of no bytes is one, too
	wantFetch(t, s.Client, idsOf(y), list(y), api.OK, 1)
}

// P17.4: what is said not to be there, with a Number of this call: at once. In a piece of many, one is enough, whatever else comes.
func TestFetchOfWhatIsNotThere(t *testing.T) {
	a, b, c := of("a"), of("b"), of("c")
	for _, row := range [][]api.Frame{
		{have(6, nil, a.Id)},
		{have(6, list(b, c), a.Id)},
		{have(6, nil, c.Id)},
		{have(6, nil, a.Id, b.Id, c.Id)},
		{have(6, list(a, b)), have(6, nil, c.Id)},
		{have(6, nil, c.Id), have(6, list(a, b))},
		{have(6, nil, b.Id), ack(6), have(6, nil)},
		{have(6, list(of("x")), of("x").Id, b.Id)},
	} {
		s := newScripted(t, 5, frames(row...), frames(have(7, list(a, b, c))))
		wantFetch(t, s.Client, idsOf(a, b, c), nil, api.ErrRemoteNone, 6)
		s.wantWent(t, want(6, idsOf(a, b, c)...))
	}
}

// P17.4: with another Number it says nothing: not of an earlier call, nor of another client, nor of one that was not sent yet.
func TestFetchOfWhatOthersAreToldIsNotThere(t *testing.T) {
	a := of("a")
	for _, number := range []int64{1, 4, 5, 7, 8, 1000, 1 << 62} {
		s := newScripted(t, 5, frames(have(number, nil, a.Id)), frames(have(7, list(a))))
		wantFetch(t, s.Client, idsOf(a), list(a), api.OK, 7)
		s.wantWent(t, want(6, a.Id), want(7, a.Id))
	}
	var plan [][]string
	for range 8 {
		plan = append(plan, frames(have(5, nil, a.Id), have(1000, nil, a.Id), have(14, nil, of("b").Id)))
	}
	s := newScripted(t, 5, plan...)
	wantFetch(t, s.Client, idsOf(a), nil, api.ErrRemoteUnavailable, 13)
}

// P17.4: with the Number of an earlier frame of this call it does: of the same piece, and of one ahead.
func TestFetchOfLateNotThere(t *testing.T) {
	a, b := of("a"), of("b")
	s := newScripted(t, 5, nil, frames(have(7, list(a))), frames(have(6, nil, b.Id)))
	wantFetch(t, s.Client, idsOf(a, b), nil, api.ErrRemoteNone, 8)
	s.wantWent(t, want(6, a.Id, b.Id), want(7, a.Id, b.Id), want(8, b.Id))
	objs := numbered(65)
	s = newScripted(t, 5, frames(have(6, objs[:64])), frames(have(6, nil, objs[64].Id)))
	wantFetch(t, s.Client, idsOf(objs...), nil, api.ErrRemoteNone, 7)
}

// P17.4: a Number is of the call that sent it alone, and not of the one behind, even of the same ids.
func TestFetchAgainOfWhatWasNotThere(t *testing.T) {
	a := of("a")
	s := newScripted(t, 0, frames(have(1, nil, a.Id)), frames(have(1, nil, a.Id)), frames(have(3, list(a))))
	wantFetch(t, s.Client, idsOf(a), nil, api.ErrRemoteNone, 1)
	wantFetch(t, s.Client, idsOf(a), list(a), api.OK, 3)
	s = newScripted(t, 0, frames(ack(1, a.Id)), frames(have(1, nil, a.Id)), frames(have(3, list(a))))
	wantPush(t, s.Client, list(a), api.OK, 1)
	wantFetch(t, s.Client, idsOf(a), list(a), api.OK, 3)
}

// P17.4: that one is not there counts only if it has not come when the last of these frames is read, nor ahead.
func TestFetchOfWhatIsNotThereAndComes(t *testing.T) {
	a, b := of("a"), of("b")
	for _, row := range [][]api.Frame{
		{have(1, list(a), a.Id)},
		{have(1, nil, a.Id), have(1, list(a))},
		{have(1, nil, a.Id), have(1, nil), have(100, list(b, a))},
		{have(1, list(a)), have(1, nil, a.Id)},
	} {
		s := newScripted(t, 0, frames(row...))
		wantFetch(t, s.Client, idsOf(a), list(a), api.OK, 1)
		s = newScripted(t, 0, frames(row...), frames(have(2, list(b), a.Id), have(1, nil, a.Id)))
		last := int64(2)
		if len(row) == 3 {
			last = 1
		}
		wantFetch(t, s.Client, idsOf(b, a), list(b, a), api.OK, last)
	}
	// That it comes with the next answer is too late.
	s := newScripted(t, 0, frames(have(1, nil, a.Id)), frames(have(2, list(a))))
	wantFetch(t, s.Client, idsOf(a), nil, api.ErrRemoteNone, 1)
}

// P17.4: only ids of the piece are not there: not those of another piece, nor those that nobody told; and that is forgotten.
func TestFetchOfOtherPiecesNotThere(t *testing.T) {
	objs := numbered(129)
	all := idsOf(objs...)
	s := newScripted(t, 0,
		frames(have(1, objs[:64], slices.Concat(all[64:], idsOf(of("x")))[:64]...), have(1, nil, append(all[128:], idsOf(of("x"))...)...)),
		frames(have(2, objs[64:128], all[128], all[0]), have(1, nil, all[:64]...)),
		frames(have(3, nil, all[:64]...), have(3, objs[128:])),
	)
	wantFetch(t, s.Client, all, objs, api.OK, 3)
	s.wantWent(t, want(1, all[:64]...), want(2, all[64:128]...), want(3, all[128]))
	s = newScripted(t, 0, frames(have(1, objs[:64])), frames(have(2, objs[64:128])), frames(have(3, nil, all[128])))
	wantFetch(t, s.Client, all, nil, api.ErrRemoteNone, 3)
}

// P17.4: it asks 8 times for a piece, and no more; with the eighth answer it still comes, or is not there.
func TestFetchAsksEightTimes(t *testing.T) {
	a := of("a")
	asks := manyFrames(1, 8, func(n int64) api.Frame { return want(n, a.Id) })
	for n := range 10 {
		var plan [][]string
		for range n {
			plan = append(plan, nil)
		}
		s := newScripted(t, 0, append(slices.Clip(plan), frames(have(int64(n+1), list(a))))...)
		other := newScripted(t, 0, append(slices.Clip(plan), frames(have(int64(n+1), nil, a.Id)))...)
		if n < 8 {
			wantFetch(t, s.Client, idsOf(a), list(a), api.OK, int64(n+1))
			wantFetch(t, other.Client, idsOf(a), nil, api.ErrRemoteNone, int64(n+1))
		} else {
			wantFetch(t, s.Client, idsOf(a), nil, api.ErrRemoteUnavailable, 8)
			wantFetch(t, other.Client, idsOf(a), nil, api.ErrRemoteUnavailable, 8)
		}
		s.wantWent(t, asks[:min(n+1, 8)]...)
		other.wantWent(t, asks[:min(n+1, 8)]...)
	}
}

// P17.4: 8 times for each piece: what was asked for one does not count for the next one; that some came does not begin it anew.
func TestFetchAsksEightTimesForEachPiece(t *testing.T) {
	objs := numbered(129)
	var plan [][]string
	for i := range 3 {
		plan = append(plan, nil, nil, nil, nil, nil, nil, nil, frames(have(1, objs[64*i:min(64*i+64, 129)])))
	}
	s := newScripted(t, 0, plan...)
	wantFetch(t, s.Client, idsOf(objs...), objs, api.OK, 24)

	plan = nil
	for i := range 8 {
		plan = append(plan, frames(have(1, objs[i:i+1])))
	}
	s = newScripted(t, 0, plan...)
	wantFetch(t, s.Client, idsOf(objs[:9]...), nil, api.ErrRemoteUnavailable, 8)
	s = newScripted(t, 0, plan...)
	wantFetch(t, s.Client, idsOf(objs[:8]...), objs[:8], api.OK, 8)

	// The second piece alone fails: its own eight, and none for the third one.
	s = newScripted(t, 0, frames(have(1, objs[:64])))
	wantFetch(t, s.Client, idsOf(objs...), nil, api.ErrRemoteUnavailable, 9)
	s.wantWent(t, append([]api.Frame{want(1, idsOf(objs[:64]...)...)}, manyFrames(2, 8, func(n int64) api.Frame { return want(n, idsOf(objs[64:128]...)...) })...)...)
}

// P17.4: what comes back and is no frame, or no WHave, is passed over, whatever it says.
func TestFetchOfOtherFrames(t *testing.T) {
	a := of("a")
	turned := []byte(plainText(have(1, list(a))))
	turned[3] ^= 1
	row := append(frames(ack(1, a.Id), push(1, a), want(1, a.Id), ack(1)), "x", string(turned), plainText(have(1, nil, a.Id))[1:], plainText(have(0, list(a))), plainText(have(1<<62+1, list(a))), plainText(have(1, nil, slices.Repeat(idsOf(a), 65)...)))
	s := newScripted(t, 0, row, row, append(row, plainText(have(3, list(a)))))
	wantFetch(t, s.Client, idsOf(a), list(a), api.OK, 3)
}

// P17.4: nothing is left of a call that failed, but its numbers: neither objects that came, nor what is not there.
func TestFetchAfterAnError(t *testing.T) {
	a, b := of("a"), of("b")
	s := newScripted(t, 0, frames(have(1, list(a), b.Id)), frames(have(2, list(a, b))))
	wantFetch(t, s.Client, idsOf(a, b), nil, api.ErrRemoteNone, 1)
	wantFetch(t, s.Client, idsOf(a, b), list(a, b), api.OK, 2)
	s.wantWent(t, want(1, a.Id, b.Id), want(2, a.Id, b.Id))
	// Nor of one that did not.
	s = newScripted(t, 0, frames(have(1, list(a, b))), nil, frames(have(3, list(b))))
	wantFetch(t, s.Client, idsOf(a), list(a), api.OK, 1)
	wantFetch(t, s.Client, idsOf(b), list(b), api.OK, 3)
	wantFetch(t, s.Client, idsOf(a), nil, api.ErrRemoteUnavailable, 11)
}

// P17.4: full pieces of the greatest objects.
func TestFetchOfGreatObjects(t *testing.T) {
	var objs []api.Object
	for _, b := range manyTexts(65, 32768) {
		objs = append(objs, of(b))
	}
	c := remote.NewClient(serving(t, remote.NewServer(objs...)), 0)
	wantFetch(t, c, idsOf(objs...), objs, api.OK, 2)
}
