package remote_test

import (
	"math/rand"
	"slices"
	"testing"

	"tussock/api"
	"tussock/net"
	"tussock/remote"
)

// both is a client and its model, each with others that answer alike.
type both struct {
	*remote.Client
	model *plainClient
}

// fetch and push ask both, who must say the same.
func (b *both) fetch(t testing.TB, ids ...string) api.Errno {
	t.Helper()
	want, wantE := b.model.fetch(ids...)
	wantFetch(t, b.Client, ids, want, wantE, b.model.last)
	return wantE
}

func (b *both) push(t testing.TB, objs ...api.Object) api.Errno {
	t.Helper()
	wantE := b.model.push(objs...)
	wantPush(t, b.Client, objs, wantE, b.model.last)
	return wantE
}

// served is a client and its model, each on a net of its own with a server of its own; what comes to the servers is noted.
type served struct {
	both
	server      *remote.Server
	modelServer *plainServer
	came        []string
	modelCame   []string
}

func newServed(t testing.TB, last int64, fates []api.Fate, objs ...api.Object) *served {
	t.Helper()
	s := &served{server: remote.NewServer(objs...), modelServer: newPlainServer(objs...)}
	one, _ := net.New(func(frame string) string {
		s.came = append(s.came, frame)
		return s.server.Serve(frame)
	}, fates...)
	other, _ := net.New(func(frame string) string {
		s.modelCame = append(s.modelCame, frame)
		return s.modelServer.serve(frame)
	}, fates...)
	s.Client = remote.NewClient(one, last)
	s.model = &plainClient{ask: other.Ask, last: last}
	return s
}

// wantSame asks what came to the servers, and what they have.
func (s *served) wantSame(t testing.TB) {
	t.Helper()
	wantTexts(t, "what came to the server", s.came, s.modelCame)
	wantTexts(t, "Ids", s.server.Ids(), s.modelServer.ids())
}

// draw says what drawn calls are made of.
type draw struct{ *rand.Rand }

// some are drawn objects of a list, some of them twice.
func (r draw) some(objs []api.Object) []api.Object {
	n := []int{0, 1, 1, 2, 3, 5, 10, 63, 64, 65, 128, 150}[r.Intn(12)]
	var out []api.Object
	switch r.Intn(3) {
	case 0:
		for range min(n, 10) {
			out = append(out, objs[r.Intn(len(objs))])
		}
	case 1:
		out = append(out, objs[:min(n, len(objs))]...)
		r.Shuffle(len(out), func(i, j int) { out[i], out[j] = out[j], out[i] })
	default:
		from := r.Intn(len(objs))
		out = append(out, objs[from:min(from+n, len(objs))]...)
		if len(out) > 0 {
			out = slices.Insert(out, r.Intn(len(out)), out[r.Intn(len(out))])
		}
	}
	return out
}

// spoil makes one of some objects a wrong one, now and then.
func (r draw) spoil(l []api.Object) []api.Object {
	if len(l) > 0 && r.Intn(15) == 0 {
		wrong := wrongObjects()
		l[r.Intn(len(l))] = wrong[r.Intn(len(wrong))]
	}
	return l
}

// P17.1 to P17.5: drawn objects, ids and fates, against the plain reckoning.
func TestAsTheModel(t *testing.T) {
	ends := map[api.Errno]int{}
	for seed := range int64(1500) {
		r := draw{rand.New(rand.NewSource(seed))}
		objs := numbered(1 + r.Intn(150))
		r.Shuffle(len(objs), func(i, j int) { objs[i], objs[j] = objs[j], objs[i] })
		s := newServed(t, r.Int63n(1000), fates(drawnLetters(r.Rand, r.Intn(80))), r.spoil(slices.Clone(objs[:r.Intn(len(objs))]))...)
		for range 1 + r.Intn(6) {
			if l := r.spoil(r.some(objs)); r.Intn(3) > 0 {
				ends[s.fetch(t, idsOf(l...)...)]++
			} else {
				ends[s.push(t, l...)]++
			}
			s.wantSame(t)
		}
		if t.Failed() {
			t.Fatalf("the seed %d", seed)
		}
	}
	for _, e := range []api.Errno{api.OK, api.ErrRemoteForm, api.ErrRemoteNone, api.ErrRemoteUnavailable} {
		if ends[e] < 50 {
			t.Errorf("%d: %d times", e, ends[e])
		}
	}
}

// answer is a drawn text that comes back: of what was told, of Numbers near the last ones, and what is no frame.
func (r draw) answer(last int64, objs []api.Object) string {
	number := max(last+int64(r.Intn(7))-3, 1)
	few := func(most int) []api.Object {
		var out []api.Object
		for range r.Intn(most + 1) {
			out = append(out, objs[r.Intn(len(objs))])
		}
		return out
	}
	piece := func() []api.Object {
		from := r.Intn(len(objs))
		return objs[from:min(from+1+r.Intn(64), len(objs))]
	}
	switch r.Intn(12) {
	case 0:
		return plainText(have(number, few(3), idsOf(few(1)...)...))
	case 1:
		return plainText(have(number, nil, idsOf(few(2)...)...))
	case 2:
		return plainText(ack(number, idsOf(few(3)...)...))
	case 3:
		return plainText(push(number, append(few(2), objs[0])...))
	case 4:
		return plainText(want(number, idsOf(append(few(2), objs[0])...)...))
	case 5:
		b := []byte(plainText(have(number, few(3))))
		b[r.Intn(len(b))] ^= byte(1 + r.Intn(255))
		return string(b)
	case 6:
		return "no frame"
	case 7, 8:
		return plainText(ack(number, idsOf(piece()...)...))
	}
	return plainText(have(number, piece()))
}

// P17.3 to P17.5: drawn answers of whoever serves, several to a frame, against the plain reckoning; and which frames go out.
func TestAsTheModelWhoeverServes(t *testing.T) {
	ends := map[api.Errno]int{}
	for seed := range int64(3000) {
		r := draw{rand.New(rand.NewSource(seed))}
		objs := numbered(1 + r.Intn(140))
		last := int64(r.Intn(10))
		var plan [][]string
		for i := range 60 {
			var row []string
			for range r.Intn(4) {
				row = append(row, r.answer(last+int64(i), objs))
			}
			plan = append(plan, row)
		}
		s := newScripted(t, last, slices.Clone(plan)...)
		b := both{s.Client, &plainClient{last: last}}
		b.model.ask = func(string) []string {
			if len(plan) == 0 {
				return nil
			}
			row := plan[0]
			plan = plan[1:]
			return row
		}
		for range 1 + r.Intn(5) {
			if l := r.some(objs); r.Intn(3) > 0 {
				ends[b.fetch(t, idsOf(l...)...)]++
			} else {
				ends[b.push(t, l...)]++
			}
			wantTexts(t, "frames that went out", s.went, b.model.went)
		}
		if t.Failed() {
			t.Fatalf("the seed %d", seed)
		}
	}
	for _, e := range []api.Errno{api.OK, api.ErrRemoteNone, api.ErrRemoteUnavailable} {
		if ends[e] < 100 {
			t.Errorf("%d: %d times", e, ends[e])
		}
	}
}

// P17.1: drawn frames, right ones and others.
func TestFramesAsTheModel(t *testing.T) {
	r := draw{rand.New(rand.NewSource(171))}
	right := 0
	for range 20000 {
		f := api.Frame{Kind: r.Intn(6), Number: []int64{0, 1, 1 << 62, 1<<62 + 1, r.Int63(), r.Int63n(1 << 20), -1}[r.Intn(7)]}
		if r.Intn(2) == 0 {
			f.Ids = manyTexts([]int{0, 1, 2, 64, 65}[r.Intn(5)], 32)
		}
		if r.Intn(2) == 0 {
			f.Objs = manyTexts([]int{0, 1, 2, 64, 65}[r.Intn(5)], r.Intn(5))
		}
		if len(f.Ids) > 0 && r.Intn(10) == 0 {
			f.Ids[r.Intn(len(f.Ids))] = "x"
		}
		switch {
		case plainRight(f):
			right++
			wantEncode(t, f)
		case f.Kind == 0 || f.Kind == 5:
			wantNoEncodeAlone(t, f)
		default:
			wantNoEncode(t, f)
		}
	}
	if right < 1000 {
		t.Errorf("%d frames were right", right)
	}
}

// FuzzDecode looks for bytes that are not read as the plain words have it: as they are, and with a sum of their own.
func FuzzDecode(f *testing.F) {
	for _, s := range smallFrames() {
		f.Add(s)
		f.Add(s[:len(s)-4])
	}
	f.Fuzz(func(t *testing.T, s string) {
		for _, s := range []string{s, summed(s)} {
			frame, ok := plainFrame(s)
			if !ok {
				wantNoDecode(t, s)
				continue
			}
			wantEncode(t, frame)
			server, model := remote.NewServer(numbered(5)...), newPlainServer(numbered(5)...)
			for range 2 {
				wantText(t, "Serve", server.Serve(s), model.serve(s))
				wantTexts(t, "Ids", server.Ids(), model.ids())
			}
		}
	})
}

// FuzzAsTheModel reads fates off the one bytes, three each: a kind, an At, a By; and calls off the others, three each: which, from which object on, how many.
func FuzzAsTheModel(f *testing.F) {
	f.Add([]byte("100000110000210301"), []byte{0, 0, 5, 1, 3, 70, 2, 0, 129}, int64(0))
	f.Add([]byte{3, 0, 0, 0, 0, 0, 3, 0, 0, 2, 7, 255, 4, 0, 0}, []byte{1, 0, 130, 0, 0, 130, 3, 5, 5, 0, 60, 9}, int64(1<<61))
	f.Add([]byte{}, []byte{0, 0, 1}, int64(7))
	objs := numbered(140)
	f.Fuzz(func(t *testing.T, script, calls []byte, last int64) {
		if last < 0 || last > 1<<61 {
			return
		}
		var l []api.Fate
		for ; len(script) >= 3; script = script[3:] {
			l = append(l, api.Fate{Kind: int(script[0]) % 5, At: int(script[1]), By: script[2]})
		}
		s := newServed(t, last, l, objs[:70]...)
		for ; len(calls) >= 3; calls = calls[3:] {
			from := int(calls[1]) % len(objs)
			some := objs[from:min(from+int(calls[2]), len(objs))]
			switch calls[0] % 4 {
			case 0:
				s.fetch(t, idsOf(some...)...)
			case 1:
				s.push(t, some...)
			case 2:
				s.fetch(t, idsOf(append(slices.Clone(some), objs[:from]...)...)...)
			case 3:
				s.push(t, append(slices.Clone(some), objs[:from]...)...)
			}
			s.wantSame(t)
		}
	})
}
