package remote_test

import (
	"fmt"
	"math/rand"
	"slices"
	"strings"
	"testing"

	"tussock/api"
	"tussock/net"
	"tussock/remote"
)

// P17.6: when every frame comes through, on both ways, one frame for each 64 is enough; doubled frames make no difference.
func TestOneFrameForEach64(t *testing.T) {
	for _, n := range []int{1, 63, 64, 65, 128, 129, 1000} {
		objs := numbered(n)
		for _, l := range [][]api.Fate{nil, fates(strings.Repeat("2", 500)), fates(strings.Repeat("p2", 250)), {turn(3, 0), turn(5, 0)}} {
			server := remote.NewServer()
			c := remote.NewClient(serving(t, server, l...), 0)
			frames := int64((n + 63) / 64)
			wantPush(t, c, objs, api.OK, frames)
			wantIds(t, server, objs...)
			wantFetch(t, c, idsOf(objs...), objs, api.OK, 2*frames)
		}
	}
}

// everyRow calls with all rows of at most n fates of these letters.
func everyRow(letters string, n int, call func(row string)) {
	var grow func(row string)
	grow = func(row string) {
		call(row)
		if len(row) == n {
			return
		}
		for _, c := range letters {
			grow(row + string(c))
		}
	}
	grow("")
}

// trouble counts the fates of a row that are not FPass.
func trouble(row string) int { return len(row) - strings.Count(row, "p") }

// P17.6: with at most 7 fates that are not FPass it is never ErrRemoteUnavailable of one piece; all rows of so many lost ones, with passes in between.
func TestSevenLostFramesAreNotEnough(t *testing.T) {
	objs := numbered(3)
	everyRow("pl", 14, func(row string) {
		if trouble(row) > 7 || !strings.HasSuffix(row, "l") {
			return
		}
		s := remote.NewServer()
		c := remote.NewClient(serving(t, s, fates(row)...), 0)
		if e := c.Push(objs...); e != api.OK {
			t.Fatalf("%s: Push: %d", row, e)
		}
		c = remote.NewClient(serving(t, s, fates(row)...), 0)
		if l, e := c.Fetch(idsOf(objs...)...); e != api.OK || !slices.Equal(l, objs) || c.Last() > 8 {
			t.Fatalf("%s: Fetch: %s, %d, Last %d", row, toldObjects(l), e, c.Last())
		}
	})
}

// P17.6: the same of all kinds of fates: all short rows, and drawn long ones.
func TestSevenFatesAreNotEnough(t *testing.T) {
	objs := numbered(2)
	ask := func(row string) {
		s := remote.NewServer(objs[0])
		c := remote.NewClient(serving(t, s, fates(row)...), 0)
		if e := c.Push(objs...); e != api.OK {
			t.Fatalf("%s: Push: %d", row, e)
		}
		wantIds(t, s, objs...)
		c = remote.NewClient(serving(t, s, fates(row)...), 0)
		if l, e := c.Fetch(idsOf(objs...)...); e != api.OK || !slices.Equal(l, objs) {
			t.Fatalf("%s: Fetch: %s, %d", row, toldObjects(l), e)
		}
		c = remote.NewClient(serving(t, s, fates(row)...), 0)
		if _, e := c.Fetch(of("none").Id); e != api.ErrRemoteNone {
			t.Fatalf("%s: Fetch of none: %d", row, e)
		}
	}
	everyRow("plth2", 5, ask)
	r := rand.New(rand.NewSource(17))
	for range 20000 {
		row := ""
		for trouble(row) < 7 {
			row += string("plth2pp"[r.Intn(7)])
		}
		ask(row)
	}
}

// P17.6: eight can be enough: lost on the way there, or back.
func TestEightLostFrames(t *testing.T) {
	a := of("a")
	for n := range 17 {
		for _, one := range []string{"l", "pl", "t", "pt", "h", "ph"} {
			row := strings.Repeat(one, n)
			s := remote.NewServer(a)
			c := remote.NewClient(serving(t, s, fates(row)...), 0)
			wantE, last := api.OK, int64(n+1)
			if n >= 8 {
				wantE, last = api.ErrRemoteUnavailable, 8
			}
			if l, e := c.Fetch(a.Id); e != wantE || len(l) != 1 && e == api.OK || len(l) != 0 && e != api.OK {
				t.Errorf("%s: Fetch: %s, %d; want %d", row, toldObjects(l), e, wantE)
			}
			wantLast(t, c, last)
			c = remote.NewClient(serving(t, s, fates(row)...), 0)
			wantPush(t, c, list(a), wantE, last)
		}
	}
}

// P17.6: seven for each piece, if the piece behind is asked without more of them.
func TestFatesOfPieces(t *testing.T) {
	objs := numbered(129)
	s := remote.NewServer()
	row := fates("plplplplplplplpp" + "lllllllpp" + "plplplllllpp")
	c := remote.NewClient(serving(t, s, row...), 0)
	wantPush(t, c, objs, api.OK, 8+8+8)
	wantIds(t, s, objs...)
}

// liar answers whatever it is asked with drawn frames: objects that nobody asked for, turned bytes, wrong Numbers, frames of all kinds.
func liar(r *rand.Rand, objs []api.Object) func(frame string) string {
	return func(frame string) string {
		asked, _ := plainFrame(frame)
		f := api.Frame{Kind: 1 + r.Intn(4), Number: max(1, asked.Number+int64(r.Intn(5))-2)}
		if r.Intn(3) > 0 {
			f.Kind = []int{0, api.WHave, 0, api.WAck}[asked.Kind]
		}
		for range r.Intn(5) {
			o := objs[r.Intn(len(objs))]
			f.Ids = append(f.Ids, o.Id)
			if b := []byte(o.Bytes); r.Intn(4) == 0 {
				b[r.Intn(len(b))] ^= 1
				o.Bytes = string(b)
			}
			f.Objs = append(f.Objs, o.Bytes)
		}
		if f.Kind != api.WHave || r.Intn(3) > 0 {
			f.Ids = nil
		}
		if f.Kind == api.WAck {
			f.Ids, f.Objs = idsOf(objs[r.Intn(len(objs))]), nil
		}
		return plainText(f)
	}
}

// P17.6: whatever comes back, from whomever, Fetch answers the objects of its ids, or an error.
func TestFetchBelievesNobody(t *testing.T) {
	objs := numbered(10)
	ends := map[api.Errno]int{}
	for seed := range int64(3000) {
		r := rand.New(rand.NewSource(seed))
		n, _ := net.New(liar(r, objs), fates(drawnLetters(r, r.Intn(30)))...)
		c := remote.NewClient(n, int64(r.Intn(5)))
		for range 4 {
			var l []api.Object
			for range 1 + r.Intn(4) {
				l = append(l, objs[r.Intn(len(objs))])
			}
			got, e := c.Fetch(idsOf(l...)...)
			ends[e]++
			var want []api.Object
			if e == api.OK {
				for _, id := range plainlyOnce(idsOf(l...)) {
					want = append(want, objs[slices.Index(idsOf(objs...), id)])
				}
			}
			if !slices.Equal(got, want) {
				t.Fatalf("the seed %d: %s, %d; want %s", seed, toldObjects(got), e, toldObjects(want))
			}
		}
	}
	for _, e := range []api.Errno{api.OK, api.ErrRemoteNone, api.ErrRemoteUnavailable} {
		if ends[e] < 100 {
			t.Errorf("%d: %d times", e, ends[e])
		}
	}
}

// drawnLetters are fates, more or less of them passes.
func drawnLetters(r *rand.Rand, n int) string {
	kinds := []string{"plth2", "ph", "h2", "pppppppplth2", "hhhhhl2", "ht2", "l", "pl"}[r.Intn(8)]
	b := make([]byte, n)
	for i := range b {
		b[i] = kinds[r.Intn(len(kinds))]
	}
	return string(b)
}

// P17.6: what was pushed, and answered OK, is there, with all that was there ahead; of what was not answered OK none is there that was not pushed.
func TestWhatWasPushedIsThere(t *testing.T) {
	oks, fails := 0, 0
	for seed := range int64(2000) {
		r := rand.New(rand.NewSource(seed))
		objs := numbered(70)
		r.Shuffle(len(objs), func(i, j int) { objs[i], objs[j] = objs[j], objs[i] })
		s := remote.NewServer(objs[:3]...)
		c := remote.NewClient(serving(t, s, fates(drawnLetters(r, r.Intn(60)))...), 0)
		sure, tried := slices.Clone(objs[:3]), slices.Clone(objs[:3])
		for range 4 {
			l := objs[r.Intn(3):][:[]int{1, 2, 5, 67}[r.Intn(4)]]
			tried = append(tried, l...)
			if c.Push(l...) == api.OK {
				sure = append(sure, l...)
				oks++
			} else {
				fails++
			}
			has := s.Ids()
			for _, id := range idsOf(sure...) {
				if !slices.Contains(has, id) {
					t.Fatalf("the seed %d: what was pushed is not there", seed)
				}
			}
			for _, id := range has {
				if !slices.Contains(idsOf(tried...), id) {
					t.Fatalf("the seed %d: %s is there, and nobody pushed it", seed, head(id))
				}
			}
		}
		all := plainlyOnceObjects(sure)
		wantFetch(t, remote.NewClient(serving(t, s), 0), idsOf(sure...), all, api.OK, int64(len(all)+63)/64)
	}
	if oks < 100 || fails < 100 {
		t.Errorf("%d times OK, %d times not", oks, fails)
	}
}

func plainlyOnceObjects(l []api.Object) []api.Object {
	var out []api.Object
	for i, o := range l {
		if !slices.Contains(l[:i], o) {
			out = append(out, o)
		}
	}
	return out
}

// R1, P17.4: as many objects as one likes; what is asked grows with their number alone.
func TestManyObjects(t *testing.T) {
	const many = 20000
	var objs []api.Object
	for i := range many {
		objs = append(objs, of(fmt.Sprint(i)))
	}
	s := remote.NewServer()
	c := remote.NewClient(serving(t, s), 0)
	wantPush(t, c, objs, api.OK, (many+63)/64)
	wantFetch(t, c, idsOf(objs...), objs, api.OK, 2*((many+63)/64))
}
