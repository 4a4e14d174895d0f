package history_test

import (
	"slices"
	"testing"

	"tussock/api"
	"tussock/history"
)

// wantLong holds a log of great many against what the test says, and how many are read.
func wantLong(t *testing.T, s *shelf, most int, from, want []string, wantE api.Errno, asks int) {
	t.Helper()
	s.asked = nil
	got, e := history.Log(s.get, most, from...)
	if !slices.Equal(got, want) || e != wantE || len(s.asked) != asks {
		t.Errorf("Log(%d, %s): %s, %d, %d asked; want %s, %d, %d asked", most, told(from), told(got), e, len(s.asked), told(want), wantE, asks)
	}
}

// P19.2: 4095, 4096 and 4097 commits along the way, and a most that ends ahead of that.
func TestLongWay(t *testing.T) {
	s := newShelf()
	ids := s.chain(5000)
	down := backward(ids)
	for n := 4094; n <= 4096; n++ {
		wantLong(t, s, 5000, ids[n-1:n], down[5000-n:], api.OK, n)
	}
	wantLong(t, s, 5000, ids[4096:4097], nil, api.ErrHistoryLong, 4096)
	wantLong(t, s, 4097, ids[4096:4097], nil, api.ErrHistoryLong, 4096)
	wantLong(t, s, 4096, ids[4096:4097], down[5000-4097:][:4096], api.OK, 4096)
	wantLong(t, s, 4095, ids[4999:], down[:4095], api.OK, 4095)
	wantLong(t, s, 4096, ids[4999:], down[:4096], api.OK, 4096)
	wantLong(t, s, 4097, ids[4999:], nil, api.ErrHistoryLong, 4096)
}

// P19.2: so many that it begins with: whatever is asked for but none, they are all to be there.
func TestLongFrom(t *testing.T) {
	s := newShelf()
	ids := s.roots(4100)
	for _, n := range []int{4095, 4096} {
		wantLong(t, s, 5000, ids[:n], backward(ids[:n]), api.OK, n)
		wantLong(t, s, 2, ids[:n], []string{ids[n-1], ids[n-2]}, api.OK, n)
	}
	for _, n := range []int{4097, 4098, 4100} {
		for _, most := range []int{1, 2, 4096, 5000} {
			wantLong(t, s, most, ids[:n], nil, api.ErrHistoryLong, 4096)
		}
		wantLong(t, s, 0, ids[:n], nil, api.OK, 0)
		wantLong(t, s, -1, ids[:n], nil, api.ErrArg, 0)
	}
	twice := slices.Concat(ids[:4096], ids[:4096], ids[:1])
	wantLong(t, s, 5000, twice, backward(ids[:4096]), api.OK, 4096)
	wantLong(t, s, 5000, append(twice, ids[4096]), nil, api.ErrHistoryLong, 4096)
}

// P19.2: one commit's parents are those with which there are so many; they count one by one.
func TestLongParents(t *testing.T) {
	s := newShelf()
	ids := s.roots(4100)
	top := s.lay("top", 9000, ids[3], ids[4096], ids[4], ids[4097], ids[4098])
	for n := 4090; n < 4096; n++ {
		from := append(slices.Clone(ids[:n]), top)
		wantLong(t, s, 1, from, []string{top}, api.OK, n+1)
		// With top there are n+1, and three more are to be there.
		want, e, asks := backward(slices.Concat(ids[:n], ids[4096:4099], []string{top})), api.OK, n+4
		if n+4 > 4096 {
			want, e, asks = nil, api.ErrHistoryLong, 4096
		}
		wantLong(t, s, 5000, from, want, e, asks)
	}
}

// P19.2: which comes first, the error of one that can't be read or that there are too many.
func TestLongOrError(t *testing.T) {
	s := newShelf()
	ids := s.roots(4100)
	s.errs[ids[4095]] = 77
	wantLong(t, s, 9, ids, nil, 77, 4096)
	s.errs[ids[4095]] = api.OK
	s.errs[ids[4096]] = 77
	wantLong(t, s, 9, ids, nil, api.ErrHistoryLong, 4096)
	delete(s.has, ids[10])
	wantLong(t, s, 9, ids, nil, api.ErrMissing, 11)
	wantLong(t, s, 9, ids[4090:], nil, 77, 7)
	way := s.chain(5000)
	s.errs = map[string]api.Errno{}
	s.has[way[903]] = "?"
	wantLong(t, s, 5000, way[4999:], nil, api.ErrHistoryLong, 4096)
	s.has[way[904]] = "?"
	wantLong(t, s, 5000, way[4999:], nil, api.ErrObjectByte, 4096)
	wantLong(t, s, 4095, way[4999:], backward(way[905:]), api.OK, 4095)
}

// P19.3, P19.4: the same bound for the walks of the others: Above's may end ahead of it.
func TestLongAboveAndBase(t *testing.T) {
	s := newShelf()
	ids := s.chain(5000)
	for _, x := range []struct {
		a, b  int
		want  bool
		wantE api.Errno
		asks  int
	}{
		{4999, 4998, true, api.OK, 2}, {4999, 904, true, api.OK, 4096}, {4999, 903, false, api.ErrHistoryLong, 4096},
		{4095, 0, true, api.OK, 4096}, {4096, 0, false, api.ErrHistoryLong, 4096}, {4095, 4096, false, api.OK, 4096}, {4096, 4097, false, api.ErrHistoryLong, 4096},
	} {
		s.asked = nil
		if up, e := history.Above(s.get, ids[x.a], ids[x.b]); up != x.want || e != x.wantE || len(s.asked) != x.asks {
			t.Errorf("Above(%d, %d): %v, %d, %d asked; want %v, %d, %d asked", x.a, x.b, up, e, len(s.asked), x.want, x.wantE, x.asks)
		}
	}
	for _, x := range []struct {
		a, b, want int
		wantE      api.Errno
		asks       int
	}{
		{4095, 4095, 4095, api.OK, 8192}, {4095, 7, 7, api.OK, 4104}, {7, 4095, 7, api.OK, 4104},
		{4096, 7, 0, api.ErrHistoryLong, 4096}, {7, 4096, 0, api.ErrHistoryLong, 4104}, {4096, 4096, 0, api.ErrHistoryLong, 4096},
	} {
		want := ids[x.want]
		if x.wantE != api.OK {
			want = ""
		}
		s.asked = nil
		if got, e := history.Base(s.get, ids[x.a], ids[x.b]); got != want || e != x.wantE || len(s.asked) != x.asks {
			t.Errorf("Base(%d, %d): %q, %d, %d asked; want %q, %d, %d asked", x.a, x.b, name(got), e, len(s.asked), name(want), x.wantE, x.asks)
		}
	}
}
