package lru_test

import (
	"math/rand"
	"slices"
	"testing"

	"tussock/api"
	"tussock/lru"
)

// told is what one who looks on knows of a key: what was put last, and when it was used.
type told struct {
	val  string
	used int
}

// looker makes drawn calls of a cache, and holds what it answers against what was told by its answers alone.
type looker struct {
	*lru.Cache
	budget int
	there  map[string]told
	step   int
}

func (l *looker) put(t *testing.T, key, val string) {
	t.Helper()
	gone, e := l.Put(key, val)
	if e != api.OK {
		return
	}
	l.there[key] = told{val, l.step}
	for i, k := range gone {
		l.wantReason(t, k)
		if i > 0 && l.there[gone[i-1]].used > l.there[k].used {
			t.Errorf("%q went ahead of %q, which was used first", gone[i-1], k)
		}
	}
	for _, k := range gone {
		delete(l.there, k)
	}
}

// wantReason: with those that were used since, a text that goes has more than the budget.
func (l *looker) wantReason(t *testing.T, key string) {
	t.Helper()
	mine, has := l.there[key]
	if !has {
		t.Errorf("%q goes, and was not there", key)
	}
	n := 0
	for k, x := range l.there {
		if x.used >= mine.used {
			n += len(k) + len(x.val)
		}
	}
	if n <= l.budget {
		t.Errorf("%q goes: it has %d bytes with those used since, of a budget of %d", key, n, l.budget)
	}
}

func (l *looker) get(t *testing.T, key string) {
	t.Helper()
	want, has := l.there[key]
	if !has {
		wantNone(t, l.Cache, key)
		return
	}
	wantGet(t, l.Cache, key, want.val)
	l.there[key] = told{want.val, l.step}
}

func (l *looker) drop(t *testing.T, keys ...string) {
	t.Helper()
	had := len(l.there)
	for _, key := range keys {
		delete(l.there, key)
	}
	wantDrop(t, l.Cache, had-len(l.there), keys...)
}

// wantWithin: all weights together are what was told, and never more than the budget.
func (l *looker) wantWithin(t *testing.T) {
	t.Helper()
	n := 0
	for k, x := range l.there {
		n += len(k) + len(x.val)
	}
	if got := l.Bytes(); got != n || got > l.budget {
		t.Errorf("%d bytes; want %d, of a budget of %d", got, n, l.budget)
	}
	if got := len(l.Keys()); got != len(l.there) {
		t.Errorf("%d keys; want %d", got, len(l.there))
	}
}

// P7.5: what a cache tells of a key is what was put last, as long as it did not go; and which text goes, and when.
func TestWhatACacheTells(t *testing.T) {
	r := rand.New(rand.NewSource(75))
	for budget := range 40 {
		l := &looker{lru.New(budget), budget, map[string]told{}, 0}
		for l.step = range 500 {
			switch n := r.Intn(10); {
			case n < 5:
				l.put(t, drawnKey(r), drawnText(r, budget+2))
			case n < 9:
				l.get(t, drawnKey(r))
			default:
				l.drop(t, drawnKeys(r)...)
			}
			l.wantWithin(t)
		}
	}
}

// wantNoLess: the one of the greater budget has all that the other one has, with the same texts.
func wantNoLess(t *testing.T, lesser, greater *lru.Cache) {
	t.Helper()
	more := greater.Keys()
	keys := lesser.Keys()
	if more = slices.DeleteFunc(more, func(k string) bool { return !slices.Contains(keys, k) }); !slices.Equal(more, keys) {
		t.Errorf("with a greater budget: %q; with a lesser one: %q", more, keys)
	}
	for _, k := range slices.Backward(keys) { // this leaves the order as it is
		want, _ := lesser.Get(k)
		wantGet(t, greater, k, want)
	}
}

// P7.5: the same calls, where both do them: whatever stays with a lesser budget stays with a greater one.
func TestAGreaterBudgetKeepsMore(t *testing.T) {
	r := rand.New(rand.NewSource(57))
	for lesser := range 25 {
		for _, more := range []int{0, 1, 2, 5, 40} {
			one, other := lru.New(lesser), lru.New(lesser+more)
			for range 100 {
				switch n := r.Intn(10); {
				case n < 6:
					key := drawnKey(r)
					key = key[:min(len(key), lesser)]
					val := drawnText(r, lesser-len(key))
					one.Put(key, val)
					other.Put(key, val)
				case n < 9 && len(one.Keys()) > 0:
					key := one.Keys()[r.Intn(len(one.Keys()))]
					one.Get(key)
					other.Get(key)
				default:
					keys := drawnKeys(r)
					one.Drop(keys...)
					other.Drop(keys...)
				}
				wantNoLess(t, one, other)
			}
		}
	}
}

// P7.5: of the same texts, used in the same order, fewer go with a greater budget: the first ones of those that go with a lesser one.
func TestOfTheSameTextsFewerGo(t *testing.T) {
	for lesser := 10; lesser < 20; lesser++ {
		for greater := lesser; greater < 30; greater++ {
			for n := range lesser {
				one := filled(t, lesser, "a", "1", "b", "22", "c", "", "d", "34")
				other := filled(t, greater, "a", "1", "b", "22", "c", "", "d", "34")
				val := string(make([]byte, n))
				more, _ := one.Put("e", val)
				fewer, _ := other.Put("e", val)
				if len(fewer) > len(more) || !slices.Equal(fewer, more[:len(fewer)]) {
					t.Errorf("%q go with %d, %q with %d", more, lesser, fewer, greater)
				}
			}
		}
	}
}

// P7.2, P7.3, where the same calls do not do the same: a Get that only the greater one answers uses a key there alone, a Put that only the greater one takes sends others away there alone.
func TestWhereOnlyTheGreaterOneDoesACall(t *testing.T) {
	lesser, greater := filled(t, 4, "a", "11"), filled(t, 5, "a", "11")
	wantPut(t, lesser, "b", "2", "a")
	wantPut(t, greater, "b", "2")
	wantNone(t, lesser, "a")
	wantGet(t, greater, "a", "11")
	wantPut(t, lesser, "c", "3")
	wantPut(t, greater, "c", "3", "b")

	lesser, greater = filled(t, 2, "a", "1"), filled(t, 3, "a", "1")
	wantBig(t, lesser, "b", "22")
	wantPut(t, greater, "b", "22", "a")
	wantGet(t, lesser, "a", "1")
}
