package lru_test

import (
	"math/rand"
	"testing"
)

// drawnCall makes one call of a cache and its model, and asks for Keys and Bytes behind it.
func (b *both) drawnCall(t *testing.T, r *rand.Rand) {
	t.Helper()
	switch n := r.Intn(10); {
	case n < 5:
		b.put(t, drawnKey(r), drawnText(r, min(b.model.budget, 60)+2))
	case n < 8:
		b.get(t, drawnKey(r))
	default:
		b.drop(t, drawnKeys(r)...)
	}
}

// P7.1 to P7.5: long scripts of drawn calls, of all kinds of budgets.
func TestAsTheModel(t *testing.T) {
	r := rand.New(rand.NewSource(7))
	for budget := -2; budget < 70; budget++ {
		b := newBoth(budget)
		for range 1000 {
			b.drawnCall(t, r)
		}
		if t.Failed() {
			t.Fatalf("with a budget of %d", budget)
		}
	}
}

// R4: several caches, used in turns, each as its own model.
func TestSeveralAsTheirModels(t *testing.T) {
	r := rand.New(rand.NewSource(77))
	var all []*both
	for budget := range 12 {
		all = append(all, newBoth(budget*3), newBoth(budget*3))
	}
	for range 20000 {
		all[r.Intn(len(all))].drawnCall(t, r)
	}
}

// FuzzAsTheModel reads calls off the bytes, three a call: which one, its key (of one byte, or empty), how many bytes the text has.
func FuzzAsTheModel(f *testing.F) {
	f.Add(6, []byte("pa1pb2pc3ga pd4gb"))
	f.Add(0, []byte("p0000p0a0d000"))
	f.Add(-1, []byte{})
	f.Fuzz(func(t *testing.T, budget int, script []byte) {
		b := newBoth(budget)
		for ; len(script) >= 3; script = script[3:] {
			key := string(script[1:2])[:script[1]>>6&1]
			val := string(make([]byte, int(script[2])%9))
			switch script[0] % 4 {
			case 0, 1:
				b.put(t, key, val)
			case 2:
				b.get(t, key)
			default:
				b.drop(t, key, string(script[2:3]))
			}
		}
	})
}
