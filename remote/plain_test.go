package remote_test

import (
	"crypto/sha256"
	"encoding/binary"
	"hash/crc32"
	"slices"

	"tussock/api"
)

// The chapter's words, by other means than the program's: the library's sums and numbers, lists that are gone through again and again.

func plainSum(s string) string {
	sum := sha256.Sum256([]byte(s))
	return string(sum[:])
}

var plainMarks = map[int]byte{1: 0x57, 2: 0x48, 3: 0x50, 4: 0x41}

func plainRight(f api.Frame) bool {
	if f.Number < 1 || f.Number > 4611686018427387904 {
		return false
	}
	for _, id := range f.Ids {
		if len(id) != 32 {
			return false
		}
	}
	for _, o := range f.Objs {
		if len(o) > 32768 {
			return false
		}
	}
	switch f.Kind {
	case 1:
		return len(f.Objs) == 0 && len(f.Ids) >= 1 && len(f.Ids) <= 64
	case 2:
		return len(f.Objs) <= 64 && len(f.Ids) <= 64
	case 3:
		return len(f.Objs) >= 1 && len(f.Objs) <= 64 && len(f.Ids) == 0
	case 4:
		return len(f.Objs) == 0 && len(f.Ids) <= 64
	}
	return false
}

// plainText is the bytes of a frame, right or not; of a kind that there is not, with the kind as the first byte.
func plainText(f api.Frame) string {
	mark, ok := plainMarks[f.Kind]
	if !ok {
		mark = byte(f.Kind)
	}
	return summed(plainBody(mark, f))
}

func plainBody(mark byte, f api.Frame) string {
	b := binary.AppendVarint([]byte{mark}, f.Number)
	b = binary.AppendVarint(b, int64(len(f.Objs)))
	for _, o := range f.Objs {
		b = append(binary.AppendVarint(b, int64(len(o))), o...)
	}
	b = binary.AppendVarint(b, int64(len(f.Ids)))
	for _, id := range f.Ids {
		b = append(b, id...)
	}
	return string(b)
}

// summed is bytes with their sum behind them.
func summed(body string) string {
	return string(binary.LittleEndian.AppendUint32([]byte(body), crc32.ChecksumIEEE([]byte(body))))
}

// plainFrame takes what the bytes may say; they count only if that is right, and written anew has just these bytes.
func plainFrame(s string) (api.Frame, bool) {
	var f api.Frame
	if s == "" {
		return f, false
	}
	for kind, mark := range plainMarks {
		if s[0] == mark {
			f.Kind = kind
		}
	}
	b := []byte(s[1:])
	number := func() int64 {
		n, size := binary.Varint(b)
		b = b[max(size, 0):]
		return n
	}
	piece := func(n int64) string {
		n = max(min(n, int64(len(b))), 0)
		p := string(b[:n])
		b = b[n:]
		return p
	}
	f.Number = number()
	objs := number()
	for i := int64(0); i < min(objs, 65); i++ {
		f.Objs = append(f.Objs, piece(number()))
	}
	ids := number()
	for i := int64(0); i < min(ids, 65); i++ {
		f.Ids = append(f.Ids, piece(32))
	}
	if !plainRight(f) || plainText(f) != s {
		return api.Frame{}, false
	}
	return f, true
}

// plainServer has objects in a list, none of them twice.
type plainServer struct{ objs []api.Object }

func newPlainServer(objs ...api.Object) *plainServer {
	p := &plainServer{}
	for _, o := range objs {
		if len(o.Bytes) <= 32768 && o.Id == plainSum(o.Bytes) {
			p.add(o)
		}
	}
	return p
}

func (p *plainServer) add(o api.Object) {
	if !slices.Contains(p.objs, o) {
		p.objs = append(p.objs, o)
	}
}

func (p *plainServer) serve(frame string) string {
	f, ok := plainFrame(frame)
	if !ok {
		return ""
	}
	var out api.Frame
	switch f.Kind {
	case 1:
		out = api.Frame{Kind: 2, Number: f.Number}
		for _, id := range plainlyOnce(f.Ids) {
			at := slices.Index(idsOf(p.objs...), id)
			if at < 0 {
				out.Ids = append(out.Ids, id)
			} else {
				out.Objs = append(out.Objs, p.objs[at].Bytes)
			}
		}
	case 3:
		var ids []string
		for _, b := range f.Objs {
			p.add(of(b))
			ids = append(ids, plainSum(b))
		}
		out = api.Frame{Kind: 4, Number: f.Number, Ids: plainlyOnce(ids)}
	default:
		return ""
	}
	return plainText(out)
}

func (p *plainServer) ids() []string {
	ids := idsOf(p.objs...)
	slices.Sort(ids)
	return ids
}

// plainlyOnce takes each but those that stood ahead.
func plainlyOnce(l []string) []string {
	var out []string
	for i, s := range l {
		if !slices.Contains(l[:i], s) {
			out = append(out, s)
		}
	}
	return out
}

// plainPieces cuts a list.
func plainPieces(l []string) [][]string {
	var out [][]string
	for len(l) > 64 {
		out = append(out, l[:64])
		l = l[64:]
	}
	if len(l) > 0 {
		out = append(out, l)
	}
	return out
}

// plainClient asks by a function, and notes what it asks.
type plainClient struct {
	ask  func(frame string) []string
	last int64
	went []string
}

// exchange sends a frame, and reads what comes back.
func (p *plainClient) exchange(f api.Frame) []api.Frame {
	p.last++
	f.Number = p.last
	p.went = append(p.went, plainText(f))
	var back []api.Frame
	for _, s := range p.ask(plainText(f)) {
		if g, ok := plainFrame(s); ok {
			back = append(back, g)
		}
	}
	return back
}

// left are those of a piece that are not in a list.
func left(piece, without []string) []string {
	var out []string
	for _, id := range piece {
		if !slices.Contains(without, id) {
			out = append(out, id)
		}
	}
	return out
}

func (p *plainClient) fetch(ids ...string) ([]api.Object, api.Errno) {
	for _, id := range ids {
		if len(id) != 32 {
			return nil, api.ErrRemoteForm
		}
	}
	ids = plainlyOnce(ids)
	ahead := p.last
	var come []api.Object
	for _, piece := range plainPieces(ids) {
		for asked := 0; len(left(piece, idsOf(come...))) > 0; asked++ {
			if asked == 8 {
				return nil, api.ErrRemoteUnavailable
			}
			var not []string
			for _, f := range p.exchange(api.Frame{Kind: 1, Ids: left(piece, idsOf(come...))}) {
				if f.Kind != 2 {
					continue
				}
				for _, b := range f.Objs {
					if slices.Contains(ids, plainSum(b)) {
						come = append(come, of(b))
					}
				}
				if f.Number > ahead && f.Number <= p.last {
					not = append(not, f.Ids...)
				}
			}
			for _, id := range left(piece, idsOf(come...)) {
				if slices.Contains(not, id) {
					return nil, api.ErrRemoteNone
				}
			}
		}
	}
	var out []api.Object
	for _, id := range ids {
		out = append(out, come[slices.Index(idsOf(come...), id)])
	}
	return out, api.OK
}

func (p *plainClient) push(objs ...api.Object) api.Errno {
	for _, o := range objs {
		if len(o.Bytes) > 32768 || o.Id != plainSum(o.Bytes) {
			return api.ErrRemoteForm
		}
	}
	ids := plainlyOnce(idsOf(objs...))
	var kept []string
	for _, piece := range plainPieces(ids) {
		for sent := 0; len(left(piece, kept)) > 0; sent++ {
			if sent == 8 {
				return api.ErrRemoteUnavailable
			}
			f := api.Frame{Kind: 3}
			for _, id := range left(piece, kept) {
				f.Objs = append(f.Objs, objs[slices.Index(idsOf(objs...), id)].Bytes)
			}
			for _, g := range p.exchange(f) {
				if g.Kind == 4 {
					kept = append(kept, g.Ids...)
				}
			}
		}
	}
	return api.OK
}
