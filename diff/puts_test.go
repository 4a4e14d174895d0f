package diff_test

import (
	"math/rand"
	"slices"
	"testing"

	"tussock/api"
	"tussock/diff"
)

func wantPuts(t *testing.T, what string, l []api.Change, want ...api.Put) {
	t.Helper()
	if got := diff.Puts(l...); !slices.Equal(got, want) {
		t.Errorf("%s: %v; want %v", what, got, want)
	}
}

// P14.3: of each change a put: with Now, if Has, else Gone; nothing else counts.
func TestPuts(t *testing.T) {
	wantPuts(t, "no change", nil)
	wantPuts(t, "no change", []api.Change{})
	wantPuts(t, "another value", []api.Change{{Key: "k", Was: "1", Now: "2", Had: true, Has: true}}, api.Put{Key: "k", Val: "2"})
	wantPuts(t, "a key more", []api.Change{{Key: "k", Now: "2", Has: true}}, api.Put{Key: "k", Val: "2"})
	wantPuts(t, "a key less", []api.Change{{Key: "k", Was: "1", Had: true}}, api.Put{Key: "k", Gone: true})
	wantPuts(t, "a value of no bytes", []api.Change{{Key: "k", Was: "1", Had: true, Has: true}}, api.Put{Key: "k"})
	wantPuts(t, "a key more, of no bytes", []api.Change{{Key: "k", Has: true}}, api.Put{Key: "k"})
	wantPuts(t, "two maps that do not have it", []api.Change{{Key: "k"}}, api.Put{Key: "k", Gone: true})
	wantPuts(t, "two maps that have the same", []api.Change{{Key: "k", Was: "1", Now: "1", Had: true, Has: true}}, api.Put{Key: "k", Val: "1"})
	wantPuts(t, "a Now without Has", []api.Change{{Key: "k", Now: "2", Had: true}}, api.Put{Key: "k", Gone: true})
	wantPuts(t, "a Was without Had", []api.Change{{Key: "k", Was: "1", Now: "2", Has: true}}, api.Put{Key: "k", Val: "2"})
	wantPuts(t, "nothing", []api.Change{{}}, api.Put{Gone: true})
	wantPuts(t, "a key of no bytes", []api.Change{{Now: "2", Has: true}}, api.Put{Val: "2"})
	long := repeated('x', 10000)
	wantPuts(t, "too long a key and a value", []api.Change{{Key: long, Now: long, Has: true}, {Key: long, Was: long, Had: true}}, api.Put{Key: long, Val: long}, api.Put{Key: long, Gone: true})
	edge := repeated('x', 64)
	wantPuts(t, "as long as may be", []api.Change{{Key: edge, Now: edge + edge, Has: true}}, api.Put{Key: edge, Val: edge + edge})
}

// P14.3: in order, of one key as often as it is there.
func TestPutsStandInOrder(t *testing.T) {
	l := []api.Change{{Key: "b", Now: "1", Has: true}, {Key: "a", Had: true}, {Key: "b", Had: true}, {Key: "b", Now: "1", Has: true}, {Key: "b", Now: "2", Has: true}, {Key: "a", Had: true}}
	wantPuts(t, "one key several times", l, api.Put{Key: "b", Val: "1"}, api.Put{Key: "a", Gone: true}, api.Put{Key: "b", Gone: true}, api.Put{Key: "b", Val: "1"}, api.Put{Key: "b", Val: "2"}, api.Put{Key: "a", Gone: true})
}

// P14.3: drawn changes, against the words.
func TestDrawnPuts(t *testing.T) {
	r := rand.New(rand.NewSource(1))
	for range 500 {
		var l []api.Change
		var want []api.Put
		for range r.Intn(40) {
			c := api.Change{Key: drawn(r, r.Intn(3)), Was: drawn(r, r.Intn(3)), Now: drawn(r, r.Intn(3)), Had: r.Intn(2) == 0, Has: r.Intn(2) == 0}
			p := api.Put{Key: c.Key, Gone: !c.Has}
			if c.Has {
				p.Val = c.Now
			}
			l, want = append(l, c), append(want, p)
		}
		wantPuts(t, "drawn", l, want...)
	}
}
