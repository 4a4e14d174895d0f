package object_test

import (
	"math"
	"math/rand"
	"slices"
	"testing"

	"tussock/api"
	"tussock/object"
)

// draw says what drawn things are made of. It is mostly right, and now and then at an edge or past it.
type draw struct{ *rand.Rand }

func (r draw) seldom() bool { return r.Intn(40) == 0 }

// count is from least to most, or one past either end.
func (r draw) count(least, most int) int {
	if r.seldom() {
		return most + 1
	}
	if r.seldom() {
		return max(least-1, 0)
	}
	if r.Intn(3) == 0 {
		return most
	}
	return least + r.Intn(min(most-least, 5)+1)
}

func (r draw) text(n int) string {
	b := make([]byte, n)
	r.Read(b)
	return string(b)
}

func (r draw) id() string {
	if r.Intn(400) == 0 {
		return r.text(31 + 2*r.Intn(2))
	}
	if r.Intn(3) == 0 {
		return id(byte(r.Intn(3)))
	}
	return r.text(32)
}

func (r draw) number(most int64) int64 {
	edges := []int64{0, -1, 1, most, most + 1, math.MaxInt64, math.MinInt64, 1 << 62, 1<<62 + 1}
	if r.Intn(100) == 0 {
		return edges[r.Intn(len(edges))]
	}
	return 1 + r.Int63n(most)
}

func (r draw) keys(n int) []string {
	var keys []string
	for range n {
		keys = append(keys, r.text(1+r.Intn(3)))
	}
	if n > 0 && r.seldom() {
		keys[0] = sized(r.Intn(3) * 33)
	}
	slices.Sort(keys)
	if !r.seldom() {
		keys = slices.Compact(keys)
	}
	if r.seldom() {
		slices.Reverse(keys)
	}
	return keys
}

func (r draw) entry() api.Entry {
	e := api.Entry{Name: r.text(1 + r.Intn(4)), Kind: 1 + r.Intn(2), Id: r.id(), Size: r.number(4096)}
	if r.seldom() {
		e.Kind = r.Intn(5) - 1
	}
	if r.seldom() {
		e.Name = []string{"", ".", "..", "a/b", sized(64), sized(65)}[r.Intn(6)]
	}
	return e
}

func (r draw) value() string {
	if r.Intn(2) == 0 {
		return plainValue(r.entry())
	}
	return r.text(r.count(0, 128))
}

func (r draw) level() int { return r.count(1, 20) }

func (r draw) thing(mark byte) thing {
	switch mark {
	case 'C':
		return chunk(r.text(r.count(0, 1024)))
	case 'F':
		f := api.Fan{Level: r.level()}
		for range r.count(1, 32) {
			f.Kids = append(f.Kids, api.Part{Id: r.id(), Size: r.number(9000)})
		}
		return f
	case 'L':
		var l leaf
		for _, key := range r.keys(r.count(0, 64)) {
			l = append(l, api.Pair{Key: key, Val: r.value()})
		}
		return l
	case 'B':
		b := api.Branch{Level: r.level()}
		for _, key := range r.keys(r.count(1, 64)) {
			b.Kids = append(b.Kids, api.Link{Last: key, Id: r.id(), Many: r.number(120)})
		}
		return b
	}
	c := api.Commit{Tree: r.id(), Who: r.text(r.count(0, 64)), Time: r.number(1 << 62), Note: r.text(r.count(0, 1024))}
	for range r.count(0, 8) {
		c.Parents = append(c.Parents, r.id())
	}
	return c
}

// spoilt are bytes of which a few are others, gone or new.
func (r draw) spoilt(b string) string {
	for range 1 + r.Intn(2) {
		i := r.Intn(len(b) + 1)
		switch r.Intn(3) {
		case 0:
			b = b[:i] + r.text(1) + b[i:]
		case 1:
			b = b[:i] + b[min(i+1, len(b)):]
		default:
			b = b[:i] + r.text(1) + b[min(i+1, len(b)):]
		}
	}
	return b
}

// checkBytes asks all that reads bytes, and holds it against the model.
func checkBytes(t *testing.T, b string) {
	t.Helper()
	for _, mark := range []byte(marks) {
		if x, ok := plainTake(mark, b); ok {
			wantTaken(t, "drawn", b, x)
		} else {
			wantNotTaken(t, "drawn", mark, b)
		}
	}
	if ids, ok := plainRefs(b); ok {
		wantRefs(t, "drawn", b, ids...)
	} else {
		wantNoRefs(t, "drawn", b)
	}
}

// P8.1 to P8.5: drawn things of each kind, most of them right, and their bytes, as they are and spoilt.
func TestAsTheModel(t *testing.T) {
	r := draw{rand.New(rand.NewSource(8))}
	rights := map[byte]int{}
	for range 1500 {
		for _, mark := range []byte(marks) {
			x := r.thing(mark)
			right := plainRight(x)
			wantIf(t, right, "drawn", x)
			b := plainBytes(x)
			checkBytes(t, b)
			for range 4 {
				checkBytes(t, r.spoilt(b))
			}
			if right {
				rights[mark]++
			}
		}
	}
	for _, mark := range []byte(marks) {
		if rights[mark] < 500 || rights[mark] == 1500 {
			t.Errorf("%d of %c are right", rights[mark], mark)
		}
	}
}

// P8.3: drawn entries and their values, as they are and spoilt.
func TestEntriesAsTheModel(t *testing.T) {
	r := draw{rand.New(rand.NewSource(88))}
	for range 20000 {
		x := r.entry()
		if entryRight(x) {
			wantEntry(t, x)
		} else {
			wantNoEntry(t, x)
		}
		checkValue(t, x, r.spoilt(plainValue(x)))
	}
}

// R4: what a call answers hangs on nothing that was asked ahead of it.
func TestNothingIsKept(t *testing.T) {
	for range 2 {
		for _, x := range some() {
			wantRight(t, "some", x)
			if _, e := object.TakeFan("F"); e != api.ErrObjectByte {
				t.Error(e)
			}
		}
	}
}

// FuzzAsTheModel reads bytes as each thing, and as an entry's value.
func FuzzAsTheModel(f *testing.F) {
	for _, x := range some() {
		f.Add("a", plainBytes(x))
	}
	f.Add("a", plainValue(api.Entry{Kind: api.KFile, Id: id(5), Size: 262144}))
	f.Add("..", plainValue(api.Entry{Kind: api.KDir, Id: id(5), Size: 4096}))
	f.Fuzz(func(t *testing.T, name, b string) {
		checkBytes(t, b)
		checkValue(t, api.Entry{Name: name}, b)
	})
}
