package lru_test

import (
	"math"
	"strings"
	"testing"

	"tussock/api"
	"tussock/lru"
)

// P7.1 to P7.4: the chapter's examples.
func TestExamples(t *testing.T) {
	c := lru.New(6)
	wantPut(t, c, "a", "1")
	wantPut(t, c, "b", "2")
	wantPut(t, c, "c", "3")
	wantGet(t, c, "a", "1")
	wantPut(t, c, "d", "45", "b", "c")
	wantAll(t, c, 5, "d", "a")
	wantBig(t, c, "e", "678901")
	wantNone(t, c, "b")
	wantPut(t, c, "a", "")
	wantAll(t, c, 4, "a", "d")
	wantDrop(t, c, 1, "a", "x", "a")
	wantAll(t, c, 3, "d")
}

// P7.1: a new cache has no texts.
func TestNewHasNothing(t *testing.T) {
	for _, budget := range []int{math.MinInt, -1, 0, 1, 6, math.MaxInt} {
		c := lru.New(budget)
		if c == nil {
			t.Fatalf("New(%d): nil", budget)
		}
		wantAll(t, c, 0)
		wantNone(t, c, "")
		wantNone(t, c, "a")
		wantDrop(t, c, 0)
		wantDrop(t, c, 0, "", "a")
		wantAll(t, c, 0)
	}
}

// P7.1, P7.3: with a budget of 0, or one below, there is room for what weighs nothing alone.
func TestBudgetsOfNothing(t *testing.T) {
	for _, budget := range []int{math.MinInt, -7, -1, 0} {
		c := lru.New(budget)
		wantBig(t, c, "a", "")
		wantBig(t, c, "", "1")
		wantBig(t, c, "a", "1")
		wantAll(t, c, 0)
		wantPut(t, c, "", "")
		wantAll(t, c, 0, "")
		wantGet(t, c, "", "")
		wantBig(t, c, "", "1")
		wantGet(t, c, "", "")
		wantPut(t, c, "", "")
		wantAll(t, c, 0, "")
		wantDrop(t, c, 1, "")
		wantAll(t, c, 0)
		wantNone(t, c, "")
	}
}

// P7.1, P7.3: a budget of one byte.
func TestABudgetOfOne(t *testing.T) {
	c := lru.New(1)
	wantBig(t, c, "a", "1")
	wantBig(t, c, "", "12")
	wantBig(t, c, "ab", "")
	wantPut(t, c, "a", "")
	wantPut(t, c, "", "")
	wantAll(t, c, 1, "", "a")
	wantPut(t, c, "", "1", "a")
	wantAll(t, c, 1, "")
	wantPut(t, c, "b", "", "")
	wantAll(t, c, 1, "b")
}

// P7.1, P7.3: with the greatest budget nothing is too heavy, and none goes.
func TestTheGreatestBudget(t *testing.T) {
	c := filled(t, math.MaxInt, "a", strings.Repeat("1", 1<<20), strings.Repeat("b", 1<<20), "", "", "")
	wantAll(t, c, 1<<21+1, "", strings.Repeat("b", 1<<20), "a")
	wantGet(t, c, "a", strings.Repeat("1", 1<<20))
	wantAll(t, c, 1<<21+1, "a", "", strings.Repeat("b", 1<<20))
}

// P7.1, R4: every call of a nil cache.
func TestANilCache(t *testing.T) {
	var c *lru.Cache
	for range 2 {
		wantNone(t, c, "a")
		wantNone(t, c, "")
		for _, val := range []string{"", "1", strings.Repeat("1", 1000)} {
			if gone, e := c.Put("", val); len(gone) != 0 || e != api.ErrNil {
				t.Errorf("Put: %q, %d; want ErrNil", gone, e)
			}
		}
		wantDrop(t, c, 0)
		wantDrop(t, c, 0, "", "a")
		wantAll(t, c, 0)
	}
}

// R1: a cache that New did not make is one without a budget.
func TestACacheThatNewDidNotMake(t *testing.T) {
	c := new(lru.Cache)
	wantAll(t, c, 0)
	wantNone(t, c, "")
	wantDrop(t, c, 0, "")
	wantBig(t, c, "a", "")
	wantPut(t, c, "", "")
	wantAll(t, c, 0, "")
}

// P7.2: the key is used by Get; all others stay in their order.
func TestGetUsesTheKey(t *testing.T) {
	for _, x := range []struct {
		key, val string
		after    []string
	}{
		{"a", "1", []string{"a", "d", "c", "b"}},
		{"b", "22", []string{"b", "d", "c", "a"}},
		{"c", "", []string{"c", "d", "b", "a"}},
		{"d", "3", []string{"d", "c", "b", "a"}},
	} {
		c := filled(t, 100, "a", "1", "b", "22", "c", "", "d", "3")
		for range 3 {
			wantGet(t, c, x.key, x.val)
			wantAll(t, c, 8, x.after...)
		}
	}
}

// P7.2: of keys that went, were dropped, or never were there is nothing, and nothing changes.
func TestGetOfWhatIsNotThere(t *testing.T) {
	c := filled(t, 6, "went", "", "a", "1")
	wantPut(t, c, "b", "2", "went")
	wantPut(t, c, "gone", "", "a")
	wantDrop(t, c, 1, "gone")
	for _, key := range []string{"went", "gone", "never", "", "B", "b\x00", "2"} {
		wantNone(t, c, key)
		wantAll(t, c, 2, "b")
	}
	wantPut(t, c, "c", "3")
	wantPut(t, c, "d", "4")
	for _, key := range []string{"went", "a", "gone", "never", ""} {
		wantNone(t, c, key)
		wantAll(t, c, 6, "d", "c", "b")
	}
	wantPut(t, c, "e", "5", "b")
}

// P7.2, P7.3: a key that went, or was dropped, may come again.
func TestKeysThatComeAgain(t *testing.T) {
	c := filled(t, 4, "a", "1", "b", "2")
	wantPut(t, c, "c", "3", "a")
	wantNone(t, c, "a")
	wantPut(t, c, "a", "4", "b")
	wantGet(t, c, "a", "4")
	wantDrop(t, c, 1, "a")
	wantNone(t, c, "a")
	wantPut(t, c, "a", "5")
	wantGet(t, c, "a", "5")
	wantAll(t, c, 4, "a", "c")
}

// P7.2 to P7.4: keys and texts are any bytes; those of one kind are not taken for others.
func TestKeysAreAnyTexts(t *testing.T) {
	keys := []string{"", "a", "A", "aa", "a\x00", "\x00", "\x00\x00", "\xff", "\xff\xfe", "a/b", "é", "e\u0301", " ", "\n"}
	c := lru.New(1000)
	bytes := 0
	for _, key := range keys {
		wantPut(t, c, key, "of "+key)
		bytes += 3 + 2*len(key)
	}
	if c.Bytes() != bytes || len(c.Keys()) != len(keys) {
		t.Errorf("%d bytes of %d keys; want %d of %d", c.Bytes(), len(c.Keys()), bytes, len(keys))
	}
	for _, key := range keys {
		wantGet(t, c, key, "of "+key)
	}
	for _, key := range keys {
		wantDrop(t, c, 1, key)
		wantNone(t, c, key)
	}
	wantAll(t, c, 0)
}

// P7.2: an empty text is there, other than none.
func TestAnEmptyText(t *testing.T) {
	c := filled(t, 3, "a", "", "", "", "b", "")
	wantAll(t, c, 2, "b", "", "a")
	wantGet(t, c, "", "")
	wantGet(t, c, "a", "")
	wantNone(t, c, "c")
	wantAll(t, c, 2, "a", "", "b")
	wantPut(t, c, "", "1")
	wantGet(t, c, "", "1")
	wantPut(t, c, "", "")
	wantGet(t, c, "", "")
	wantAll(t, c, 2, "", "a", "b")
}

// P7.4: what Drop takes away, and how many it says.
func TestDrop(t *testing.T) {
	for _, x := range []struct {
		drop  []string
		want  int
		bytes int
		left  []string
	}{
		{nil, 0, 7, []string{"d", "", "b", "a"}},
		{[]string{"x"}, 0, 7, []string{"d", "", "b", "a"}},
		{[]string{"x", "y", "x"}, 0, 7, []string{"d", "", "b", "a"}},
		{[]string{"d"}, 1, 6, []string{"", "b", "a"}},
		{[]string{"a"}, 1, 5, []string{"d", "", "b"}},
		{[]string{""}, 1, 6, []string{"d", "b", "a"}},
		{[]string{"b", "b", "b"}, 1, 4, []string{"d", "", "a"}},
		{[]string{"b", "x", "a", "b", "a"}, 2, 2, []string{"d", ""}},
		{[]string{"", "d", "a", "b"}, 4, 0, nil},
		{[]string{"a", "a", "b", "x", "", "", "d", "a"}, 4, 0, nil},
	} {
		c := filled(t, 7, "a", "1", "b", "22", "", "3", "d", "")
		wantDrop(t, c, x.want, x.drop...)
		wantAll(t, c, x.bytes, x.left...)
		for _, key := range x.drop {
			wantNone(t, c, key)
		}
		wantDrop(t, c, 0, x.drop...)
		wantAll(t, c, x.bytes, x.left...)
	}
}

// P7.3, P7.4: what was dropped weighs no more, and does not go again.
func TestDropMakesRoom(t *testing.T) {
	c := filled(t, 6, "a", "1", "b", "2", "c", "3")
	wantDrop(t, c, 1, "b")
	wantPut(t, c, "d", "4")
	wantAll(t, c, 6, "d", "c", "a")
	wantDrop(t, c, 1, "a")
	wantPut(t, c, "e", "56", "c")
	wantAll(t, c, 5, "e", "d")
	wantDrop(t, c, 2, c.Keys()...)
	wantPut(t, c, "f", "12345")
	wantAll(t, c, 6, "f")
}

// P7.4: Keys and Bytes behind each kind of call; they change nothing themselves.
func TestKeysAndBytesBehindEachCall(t *testing.T) {
	c := lru.New(8)
	wantAll(t, c, 0)
	wantPut(t, c, "a", "1")
	wantAll(t, c, 2, "a")
	wantPut(t, c, "b", "")
	wantAll(t, c, 3, "b", "a")
	wantPut(t, c, "", "345")
	wantAll(t, c, 6, "", "b", "a")
	wantGet(t, c, "a", "1")
	wantAll(t, c, 6, "a", "", "b")
	wantNone(t, c, "x")
	wantAll(t, c, 6, "a", "", "b")
	wantBig(t, c, "b", "23456789")
	wantAll(t, c, 6, "a", "", "b")
	wantPut(t, c, "b", "2")
	wantAll(t, c, 7, "b", "a", "")
	wantPut(t, c, "cc", "", "")
	wantAll(t, c, 6, "cc", "b", "a")
	wantDrop(t, c, 1, "b")
	wantAll(t, c, 4, "cc", "a")
	wantPut(t, c, "", "")
	wantAll(t, c, 4, "", "cc", "a")
	wantDrop(t, c, 3, "", "a", "cc")
	wantAll(t, c, 0)
}
