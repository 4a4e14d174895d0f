package remote_test

import (
	"math"
	"slices"
	"strings"
	"testing"

	"tussock/api"
	"tussock/remote"
)

// wantEncode asks for a right frame's bytes, and for the frame of these.
func wantEncode(t *testing.T, f api.Frame) {
	t.Helper()
	s, e := remote.Encode(f)
	if e != api.OK || s != plainText(f) {
		t.Errorf("Encode(%s): %s, %d; want %s", toldFrame(f), head(s), e, head(plainText(f)))
	}
	wantDecode(t, plainText(f), f)
}

func wantDecode(t *testing.T, s string, f api.Frame) {
	t.Helper()
	if got, e := remote.Decode(s); e != api.OK || !sameFrame(got, f) {
		t.Errorf("Decode(%s): %s, %d; want %s", head(s), toldFrame(got), e, toldFrame(f))
	}
}

// wantNoEncode asks that a frame is not right, and that nobody reads it off what would be its bytes.
func wantNoEncode(t *testing.T, f api.Frame) {
	t.Helper()
	if s, e := remote.Encode(f); s != "" || e != api.ErrRemoteForm {
		t.Errorf("Encode(%s): %s, %d; want %d", toldFrame(f), head(s), e, api.ErrRemoteForm)
	}
	wantNoDecode(t, plainText(f))
}

func wantNoDecode(t *testing.T, s string) {
	t.Helper()
	f, e := remote.Decode(s)
	if e != api.ErrRemoteByte || f.Kind != 0 || f.Number != 0 || len(f.Ids) != 0 || len(f.Objs) != 0 {
		t.Errorf("Decode(%s): %s, %d; want %d", head(s), toldFrame(f), e, api.ErrRemoteByte)
	}
}

// manyTexts are n texts of a length, each another one as far as there is room.
func manyTexts(n, size int) []string {
	var out []string
	for i := range n {
		b := []byte(strings.Repeat("x", size))
		for k := range min(size, 2) {
			b[k] = byte(i >> (8 * k))
		}
		out = append(out, string(b))
	}
	return out
}

func ids(n int) []string { return manyTexts(n, 32) }

// The chapter's examples.
func TestExamplesOfFrames(t *testing.T) {
	s, e := remote.Encode(api.Frame{Kind: api.WAck, Number: 5})
	if want := summed("\x41\x0a\x00\x00"); s != want || e != api.OK {
		t.Errorf("%x, %d; want %x", s, e, want)
	}
	wantNoDecode(t, "")
	wantNoEncode(t, api.Frame{Kind: api.WWant, Number: 1})
	wantNoEncode(t, api.Frame{Kind: api.WAck, Number: 0})
}

// P17.1: some frames' bytes, written out.
func TestBytesOfFrames(t *testing.T) {
	id, other := strings.Repeat("a", 32), strings.Repeat("b", 32)
	for _, x := range []struct {
		f    api.Frame
		body string
	}{
		{api.Frame{Kind: api.WWant, Number: 1, Ids: []string{id}}, "W\x02\x00\x02" + id},
		{api.Frame{Kind: api.WWant, Number: 64, Ids: []string{other, id, other}}, "W\x80\x01\x00\x06" + other + id + other},
		{api.Frame{Kind: api.WHave, Number: 2}, "H\x04\x00\x00"},
		{api.Frame{Kind: api.WHave, Number: 63, Objs: []string{"two", ""}, Ids: []string{id, other}}, "H\x7e\x04\x06two\x00\x04" + id + other},
		{api.Frame{Kind: api.WPush, Number: 3, Objs: []string{"one", "two"}}, "P\x06\x04\x06one\x06two\x00"},
		{api.Frame{Kind: api.WAck, Number: 4, Ids: []string{other}}, "A\x08\x00\x02" + other},
		{api.Frame{Kind: api.WAck, Number: 1 << 62}, "A\x80\x80\x80\x80\x80\x80\x80\x80\x80\x01\x00\x00"},
	} {
		s, e := remote.Encode(x.f)
		if want := summed(x.body); s != want || e != api.OK {
			t.Errorf("Encode(%s): %x, %d; want %x", toldFrame(x.f), s, e, want)
		}
		wantEncode(t, x.f)
	}
}

// P17.1: each Kind, with as few and as many as it may have.
func TestFramesOfEachKind(t *testing.T) {
	for _, n := range []int{1, 2, 63, 64} {
		wantEncode(t, api.Frame{Kind: api.WWant, Number: 1, Ids: ids(n)})
		wantEncode(t, api.Frame{Kind: api.WPush, Number: 1, Objs: manyTexts(n, 5)})
	}
	for _, n := range []int{0, 1, 2, 63, 64} {
		wantEncode(t, api.Frame{Kind: api.WAck, Number: 1, Ids: ids(n)})
		for _, many := range []int{0, 1, 2, 63, 64} {
			wantEncode(t, api.Frame{Kind: api.WHave, Number: 1, Ids: ids(n), Objs: manyTexts(many, 3)})
		}
	}
}

// P17.1: one more, or one less, than a Kind may have, or some where it has none.
func TestFramesWithTooManyOrTooFew(t *testing.T) {
	for _, n := range []int{0, 65, 66, 1000} {
		wantNoEncode(t, api.Frame{Kind: api.WWant, Number: 1, Ids: ids(n)})
		wantNoEncode(t, api.Frame{Kind: api.WPush, Number: 1, Objs: manyTexts(n, 5)})
	}
	for _, n := range []int{65, 66, 1000} {
		wantNoEncode(t, api.Frame{Kind: api.WAck, Number: 1, Ids: ids(n)})
		wantNoEncode(t, api.Frame{Kind: api.WHave, Number: 1, Ids: ids(n)})
		wantNoEncode(t, api.Frame{Kind: api.WHave, Number: 1, Objs: manyTexts(n, 3)})
		wantNoEncode(t, api.Frame{Kind: api.WHave, Number: 1, Ids: ids(n), Objs: manyTexts(n, 3)})
	}
	for _, n := range []int{1, 2, 64, 65} {
		wantNoEncode(t, api.Frame{Kind: api.WWant, Number: 1, Ids: ids(1), Objs: manyTexts(n, 0)})
		wantNoEncode(t, api.Frame{Kind: api.WWant, Number: 1, Objs: manyTexts(n, 4)})
		wantNoEncode(t, api.Frame{Kind: api.WPush, Number: 1, Objs: manyTexts(1, 4), Ids: ids(n)})
		wantNoEncode(t, api.Frame{Kind: api.WPush, Number: 1, Ids: ids(n)})
		wantNoEncode(t, api.Frame{Kind: api.WAck, Number: 1, Objs: manyTexts(n, 0)})
		wantNoEncode(t, api.Frame{Kind: api.WAck, Number: 1, Ids: ids(1), Objs: manyTexts(n, 4)})
	}
}

// P17.1: Kinds that there are not, with whatever the others have.
func TestFramesOfOtherKinds(t *testing.T) {
	for _, kind := range []int{0, 5, -1, -2, -3, -4, 6, 65, 72, 80, 87, 257, 1<<32 + 1, 1<<32 + 4, math.MinInt, math.MaxInt} {
		for _, f := range []api.Frame{
			{},
			{Ids: ids(1)},
			{Objs: manyTexts(1, 2)},
			{Ids: ids(1), Objs: manyTexts(1, 2)},
		} {
			f.Kind, f.Number = kind, 7
			if s, e := remote.Encode(f); s != "" || e != api.ErrRemoteForm {
				t.Errorf("Encode(%s): %s, %d", toldFrame(f), head(s), e)
			}
		}
	}
	for _, f := range []api.Frame{want(1, ids(1)...), have(1, list(of("a")), ids(1)...), push(1, of("a")), ack(1), ack(1, ids(2)...)} {
		for mark := range 256 {
			s := summed(plainBody(byte(mark), f))
			if g, ok := plainFrame(s); ok {
				wantDecode(t, s, g)
			} else {
				wantNoDecode(t, s)
			}
		}
	}
}

// P17.1: Numbers at the edges.
func TestNumbersOfFrames(t *testing.T) {
	kinds := []api.Frame{want(0, ids(2)...), have(0, nil), have(0, list(of("a")), ids(1)...), push(0, of("")), ack(0), ack(0, ids(1)...)}
	for _, f := range kinds {
		for _, n := range []int64{1, 2, 63, 64, 8191, 8192, 1 << 31, 1 << 32, 1 << 61, 1<<62 - 1, 1 << 62} {
			f.Number = n
			wantEncode(t, f)
		}
		for _, n := range []int64{0, -1, -2, -64, 1<<62 + 1, 1<<62 + 2, math.MaxInt64, math.MinInt64, -1 << 62} {
			f.Number = n
			wantNoEncode(t, f)
		}
	}
}

// P17.1: Ids of another length than 32, at each place.
func TestIdsOfFrames(t *testing.T) {
	for _, size := range []int{0, 1, 31, 33, 64, 1000} {
		for _, many := range []int{1, 2, 3, 64} {
			for _, at := range []int{0, many / 2, many - 1} {
				l := ids(many)
				l[at] = strings.Repeat("x", size)
				wantNoEncode(t, want(1, l...))
				wantNoEncode(t, have(1, nil, l...))
				wantNoEncode(t, have(1, list(of("a")), l...))
				wantNoEncode(t, ack(1, l...))
			}
		}
	}
	// What is missing in the one and too much in the other one does not make up for it.
	wantNoEncodeAlone(t, want(1, strings.Repeat("x", 31), strings.Repeat("y", 33)))
	wantNoEncodeAlone(t, ack(1, strings.Repeat("x", 64), ""))
	twice := []string{ids(1)[0], ids(1)[0]}
	wantEncode(t, want(1, twice...))
	wantEncode(t, have(1, nil, twice...))
	wantEncode(t, ack(1, twice...))
}

// wantNoEncodeAlone is for frames whose bytes would be another, right one's.
func wantNoEncodeAlone(t *testing.T, f api.Frame) {
	t.Helper()
	if s, e := remote.Encode(f); s != "" || e != api.ErrRemoteForm {
		t.Errorf("Encode(%s): %s, %d", toldFrame(f), head(s), e)
	}
}

// P17.1: Objs at the edges, at each place.
func TestObjsOfFrames(t *testing.T) {
	for _, size := range []int{0, 1, 63, 64, 8191, 8192, 32767, 32768} {
		o := strings.Repeat("x", size)
		for _, l := range [][]string{{o}, {o, ""}, {"", o}, {o, o, "a"}} {
			wantEncode(t, api.Frame{Kind: api.WHave, Number: 1, Objs: l})
			wantEncode(t, api.Frame{Kind: api.WHave, Number: 1, Objs: l, Ids: ids(2)})
			wantEncode(t, api.Frame{Kind: api.WPush, Number: 1, Objs: l})
		}
	}
	for _, size := range []int{32769, 32770, 65536, 1 << 20} {
		o := strings.Repeat("x", size)
		for _, l := range [][]string{{o}, {o, ""}, {"", o}, {"", o, ""}} {
			wantNoEncode(t, api.Frame{Kind: api.WHave, Number: 1, Objs: l})
			wantNoEncode(t, api.Frame{Kind: api.WHave, Number: 1, Objs: l, Ids: ids(1)})
			wantNoEncode(t, api.Frame{Kind: api.WPush, Number: 1, Objs: l})
		}
	}
	full := manyTexts(64, 32768)
	wantEncode(t, api.Frame{Kind: api.WHave, Number: 1 << 62, Objs: full, Ids: ids(64)})
	wantEncode(t, api.Frame{Kind: api.WPush, Number: 1 << 62, Objs: full})
	full[63] += "x"
	wantNoEncode(t, api.Frame{Kind: api.WPush, Number: 1 << 62, Objs: full})
}

// R3: lists of nothing are as none.
func TestFramesWithEmptyLists(t *testing.T) {
	for _, f := range []api.Frame{want(1, ids(1)...), have(1, nil), push(1, of("a")), ack(1)} {
		g := f
		g.Ids, g.Objs = append([]string{}, f.Ids...), append([]string{}, f.Objs...)
		one, _ := remote.Encode(f)
		other, _ := remote.Encode(g)
		wantText(t, "Encode", other, one)
	}
}

// P17.1: frames that are not the same have not the same bytes.
func TestFramesAreOneToOne(t *testing.T) {
	id, other := ids(2)[0], ids(2)[1]
	seen := map[string]string{}
	for _, number := range []int64{1, 2, 64, 1 << 62} {
		for _, objs := range [][]string{nil, {""}, {"", ""}, {"a"}, {"ab"}, {"a", "b"}, {"b", "a"}, {id}} {
			for _, l := range [][]string{nil, {id}, {other}, {id, id}, {id, other}, {other, id}} {
				for kind := api.WWant; kind <= api.WAck; kind++ {
					f := api.Frame{Kind: kind, Number: number, Objs: objs, Ids: l}
					s, e := remote.Encode(f)
					if (e == api.OK) != plainRight(f) {
						t.Errorf("Encode(%s): %d", toldFrame(f), e)
					}
					if was, is := seen[s]; is && e == api.OK {
						t.Errorf("%s and %s have the same bytes", was, toldFrame(f))
					}
					seen[s] = toldFrame(f)
				}
			}
		}
	}
	if len(seen) < 100 {
		t.Errorf("%d frames", len(seen))
	}
}

// smallFrames are some of few bytes, so that all can be done to them.
func smallFrames() []string {
	id := strings.Repeat("\x00", 32)
	return frames(want(1, id), want(1<<62, ids(2)...), have(2, nil), have(64, list(of("a"), of(""))), have(3, list(of("abc")), ids(1)...), have(3, nil, ids(2)...), push(4, of("")), push(5, of("one"), of("\x00\x00")), ack(6), ack(1000, id))
}

// P17.1: one byte turned, in each way.
func TestTurnedBytes(t *testing.T) {
	for _, s := range smallFrames() {
		for at := range len(s) {
			for by := 1; by < 256; by++ {
				b := []byte(s)
				b[at] ^= byte(by)
				wantNoDecode(t, string(b))
			}
		}
		if t.Failed() {
			t.Fatal(told(s))
		}
	}
}

// asPlain asks that bytes are read as the plain words have it.
func asPlain(t *testing.T, s string) bool {
	t.Helper()
	f, ok := plainFrame(s)
	if ok {
		wantDecode(t, s, f)
	} else {
		wantNoDecode(t, s)
	}
	return ok
}

// P17.1: each beginning, each end, one byte missing, one more at each place.
func TestMissingAndAddedBytes(t *testing.T) {
	for _, s := range smallFrames() {
		for at := range len(s) {
			wantNoDecode(t, s[:at])
			asPlain(t, s[at+1:])
			asPlain(t, s[:at]+s[at+1:])
		}
		for at := range len(s) + 1 {
			for c := range 256 {
				asPlain(t, s[:at]+string([]byte{byte(c)})+s[at:])
			}
		}
		for _, behind := range append(smallFrames(), "\x00", "\x00\x00\x00\x00", strings.Repeat("x", 1000)) {
			wantNoDecode(t, s+behind)
		}
		if t.Failed() {
			t.Fatal(told(s))
		}
	}
}

// P17.1: a sum that fits does not make a frame of bytes that are none: turned, missing, more, with a sum of their own.
func TestSumsThatFit(t *testing.T) {
	right := 0
	count := func(body string) {
		if asPlain(t, summed(body)) {
			right++
		}
	}
	for _, s := range smallFrames() {
		body := s[:len(s)-4]
		for at := range len(body) {
			count(body[:at])
			count(body[at+1:])
			count(body[:at] + body[at+1:])
			for c := range 256 {
				count(body[:at] + string([]byte{byte(c)}) + body[at+1:])
				count(body[:at] + string([]byte{byte(c)}) + body[at:])
			}
		}
		for c := range 256 {
			wantNoDecode(t, summed(body+string([]byte{byte(c)})))
		}
		if t.Failed() {
			t.Fatal(told(s))
		}
	}
	if right < 1000 {
		t.Errorf("just %d of them are right frames", right)
	}
}

// P17.1: the sum's bytes in another order, of other bytes, or none.
func TestWrongSums(t *testing.T) {
	for _, s := range smallFrames() {
		body, sum := s[:len(s)-4], []byte(s[len(s)-4:])
		slices.Reverse(sum)
		wantNoDecode(t, body+string(sum))
		wantNoDecode(t, body+"\x00\x00\x00\x00")
		wantNoDecode(t, body+"\xff\xff\xff\xff")
		wantNoDecode(t, body)
		wantNoDecode(t, body+summed(body[1:])[len(body)-1:])
		wantNoDecode(t, body+summed("")[:4])
	}
	for n := range 10 {
		wantNoDecode(t, strings.Repeat("\x00", n))
		wantNoDecode(t, summed(strings.Repeat("\x00", n)))
		wantNoDecode(t, strings.Repeat("A", n))
		wantNoDecode(t, summed(strings.Repeat("A", n)))
	}
}

// P17.1: numbers longer than they must be, and greater than there are, where each number stands.
func TestNumbersInOtherForms(t *testing.T) {
	id := ids(1)[0]
	for _, x := range []struct{ ahead, number, behind string }{
		{"W", "\x02", "\x00\x02" + id},
		{"W\x02", "\x00", "\x02" + id},
		{"W\x02\x00", "\x02", id},
		{"H", "\x02", "\x02\x02a\x02" + id},
		{"H\x02", "\x02", "\x02a\x02" + id},
		{"H\x02\x02", "\x02", "a\x02" + id},
		{"H\x02\x02\x02a", "\x02", id},
		{"P", "\x06", "\x02\x02a\x00"},
		{"P\x06", "\x02", "\x02a\x00"},
		{"P\x06\x02", "\x02", "a\x00"},
		{"P\x06\x02\x02a", "\x00", ""},
		{"A", "\x0a", "\x00\x00"},
		{"A\x0a", "\x00", "\x00"},
		{"A\x0a\x00", "\x00", ""},
	} {
		if !asPlain(t, summed(x.ahead+x.number+x.behind)) {
			t.Fatalf("%q is no frame", x)
		}
		long := string([]byte{x.number[0] | 128})
		for n := range 10 {
			zeros := strings.Repeat("\x80", n)
			wantNoDecode(t, summed(x.ahead+long+zeros+"\x00"+x.behind))
		}
		for _, other := range []string{
			"", "\x01", "\x03", "\xff\x7f", // none; -1, -2, -8192
			"\x82\x01", "\x80\x80\x80\x80\x10", "\x82\x80\x80\x80\x10", // 65; 2^31; 2^31 + 1
			"\x80\x80\x80\x80\x20", "\x82\x80\x80\x80\x20", // 2^32, 2^32 + 1
			"\xfe\xff\xff\xff\xff\xff\xff\xff\xff\x01", "\xff\xff\xff\xff\xff\xff\xff\xff\xff\x01", // 2^63 - 1; -2^63
			"\xff\xff\xff\xff\xff\xff\xff\xff\xff\x02", "\xff\xff\xff\xff\xff\xff\xff\xff\xff\xff\x01", // too great; of eleven bytes
		} {
			asPlain(t, summed(x.ahead+other+x.behind))
		}
	}
}

// P17.1: what says that there are more Objs, or longer ones, or more Ids, than there are bytes.
func TestFramesThatSayTooMuch(t *testing.T) {
	for _, n := range []string{"\x04", "\x80\x01", "\x82\x01", "\x80\x80\x04", "\x82\x80\x04", "\x80\x80\x80\x80\x10", "\xfe\xff\xff\xff\xff\xff\xff\xff\xff\x01"} {
		for _, body := range []string{"H\x02" + n, "H\x02" + n + "\x00", "H\x02\x02" + n + "a\x00", "H\x02\x00" + n, "H\x02\x00" + n + ids(1)[0], "P\x02" + n + "\x00\x00", "W\x02\x00" + n + ids(1)[0], "A\x02\x00" + n + ids(1)[0][:31]} {
			wantNoDecode(t, summed(body))
		}
	}
}
