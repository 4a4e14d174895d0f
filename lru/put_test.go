package lru_test

import (
	"strings"
	"testing"
)

// P7.3: a text whose weight is just the budget, and one byte more: the key's bytes weigh as the text's do.
func TestWeightsAtTheBudget(t *testing.T) {
	for _, budget := range []int{1, 2, 6, 100} {
		for key := range budget + 1 {
			c := filled(t, budget, "", "")
			k, v := strings.Repeat("k", key), strings.Repeat("v", budget-key)
			wantBig(t, c, k, v+"v")
			wantBig(t, c, k+"k", v)
			wantAll(t, c, 0, "")
			wantPut(t, c, k, v)
			wantGet(t, c, k, v)
			if c.Bytes() != budget {
				t.Errorf("%d bytes; want %d", c.Bytes(), budget)
			}
			wantBig(t, c, k, v+"v")
			wantGet(t, c, k, v)
		}
	}
}

// P7.3: what is too heavy changes nothing: neither what the key had, nor the order, though there would be room behind it.
func TestTooHeavy(t *testing.T) {
	c := filled(t, 6, "a", "1", "b", "2", "c", "3")
	for _, key := range []string{"a", "b", "c", "d", ""} {
		wantBig(t, c, key, "1234567")
		wantBig(t, c, key, strings.Repeat("1", 100000))
		wantBig(t, c, key+"1234567", "")
		wantAll(t, c, 6, "c", "b", "a")
	}
	wantBig(t, c, "a", "123456")
	wantNone(t, c, "d")
	wantNone(t, c, "")
	wantAll(t, c, 6, "c", "b", "a")
	wantGet(t, c, "a", "1")
	wantGet(t, c, "b", "2")
	wantGet(t, c, "c", "3")
}

// P7.3: the key has the new text instead of the one it had, which weighs no more, and is used.
func TestPutOfAKeyThatIsThere(t *testing.T) {
	for _, val := range []string{"", "1", "123", "1234", "12345"} {
		for key, after := range map[string][]string{
			"a": {"a", "c", "b"}, "b": {"b", "c", "a"}, "c": {"c", "b", "a"},
		} {
			c := filled(t, 14, "a", "123", "b", "123", "c", "123")
			wantPut(t, c, key, val)
			wantAll(t, c, 9+len(val), after...)
			wantGet(t, c, key, val)
			for range 3 {
				wantPut(t, c, key, val)
			}
			wantAll(t, c, 9+len(val), after...)
		}
	}
}

// P7.3: one of one's own weight takes the old one's place, whichever it was: none goes.
func TestPutOfTheSameWeight(t *testing.T) {
	c := filled(t, 6, "a", "1", "b", "2", "c", "3")
	wantPut(t, c, "a", "1")
	wantAll(t, c, 6, "a", "c", "b")
	wantPut(t, c, "b", "4")
	wantAll(t, c, 6, "b", "a", "c")
	wantPut(t, c, "b", "5")
	wantAll(t, c, 6, "b", "a", "c")
	wantGet(t, c, "b", "5")
	wantGet(t, c, "a", "1")
}

// P7.3: the key was used first: its own old weight counts no more, and it does not go; others may.
func TestPutOfTheKeyUsedFirst(t *testing.T) {
	for _, x := range []struct {
		val   string
		gone  []string
		bytes int
		after []string
	}{
		{"", nil, 5, []string{"a", "c", "b"}},
		{"1234", nil, 9, []string{"a", "c", "b"}},
		{"12345", nil, 10, []string{"a", "c", "b"}},
		{"123456", []string{"b"}, 9, []string{"a", "c"}},
		{"1234567", []string{"b"}, 10, []string{"a", "c"}},
		{"12345678", []string{"b", "c"}, 9, []string{"a"}},
		{"123456789", []string{"b", "c"}, 10, []string{"a"}},
	} {
		c := filled(t, 10, "a", "12345", "b", "1", "c", "1")
		wantPut(t, c, "a", x.val, x.gone...)
		wantAll(t, c, x.bytes, x.after...)
		wantGet(t, c, "a", x.val)
		for _, key := range x.gone {
			wantNone(t, c, key)
		}
	}
}

// P7.3: a greater text under a key that is there sends others away, but never its own.
func TestAKeyThatGrows(t *testing.T) {
	c := filled(t, 10, "a", "1", "b", "2", "c", "3", "d", "4")
	wantPut(t, c, "c", "345")
	wantAll(t, c, 10, "c", "d", "b", "a")
	wantPut(t, c, "c", "3456", "a")
	wantAll(t, c, 9, "c", "d", "b")
	wantPut(t, c, "c", "34567890", "b", "d")
	wantAll(t, c, 9, "c")
	wantPut(t, c, "c", "345678901")
	wantAll(t, c, 10, "c")
	wantBig(t, c, "c", "3456789012")
	wantGet(t, c, "c", "345678901")
}

// P7.3: as many go as must: none, one, several, all the others; those used first first.
func TestHowManyGo(t *testing.T) {
	for _, x := range []struct {
		val   string
		gone  []string
		bytes int
		left  []string
	}{
		{"", nil, 11, []string{"e", "d", "c", "b", "a"}},
		{"1", nil, 12, []string{"e", "d", "c", "b", "a"}},
		{"12", []string{"a"}, 11, []string{"e", "d", "c", "b"}},
		{"123", []string{"a"}, 12, []string{"e", "d", "c", "b"}},
		{"1234", []string{"a", "b"}, 10, []string{"e", "d", "c"}},
		{"123456", []string{"a", "b"}, 12, []string{"e", "d", "c"}},
		{"1234567", []string{"a", "b", "c"}, 12, []string{"e", "d"}},
		{"12345678", []string{"a", "b", "c", "d"}, 9, []string{"e"}},
		{"12345678901", []string{"a", "b", "c", "d"}, 12, []string{"e"}},
	} {
		c := filled(t, 12, "a", "1", "b", "22", "c", "", "d", "333")
		wantPut(t, c, "e", x.val, x.gone...)
		wantAll(t, c, x.bytes, x.left...)
		wantGet(t, c, "e", x.val)
		for _, key := range x.gone {
			wantNone(t, c, key)
		}
	}
}

// P7.3: one goes in its turn, even if there would be room without it: it weighs nothing, or less than another one.
func TestTheOneUsedFirstGoesWhateverItWeighs(t *testing.T) {
	c := filled(t, 4, "", "", "a", "1", "b", "2")
	wantPut(t, c, "c", "", "", "a")
	wantAll(t, c, 3, "c", "b")

	c = filled(t, 10, "a", "", "b", "12345678")
	wantPut(t, c, "c", "1", "a", "b")
	wantAll(t, c, 2, "c")

	c = filled(t, 10, "b", "1234567", "a", "", "", "")
	wantPut(t, c, "c", "1", "b")
	wantAll(t, c, 3, "c", "", "a")
}

// P7.3: what weighs nothing sends none away, and stays as long as all others are within the budget.
func TestWhatWeighsNothing(t *testing.T) {
	c := filled(t, 4, "a", "1", "b", "2", "", "")
	wantAll(t, c, 4, "", "b", "a")
	wantPut(t, c, "c", "3", "a")
	wantPut(t, c, "d", "4", "b")
	wantAll(t, c, 4, "d", "c", "")
	wantPut(t, c, "e", "5", "", "c")
	wantAll(t, c, 4, "e", "d")
}

// P7.2, P7.3: keys go in the order in which they were used, by Get and by Put, not in that in which they came.
func TestTheOrderInWhichKeysGo(t *testing.T) {
	c := filled(t, 12, "a", "1", "b", "2", "c", "3", "d", "4", "e", "5", "f", "6")
	wantGet(t, c, "c", "3")
	wantPut(t, c, "a", "7")
	wantGet(t, c, "e", "5")
	wantGet(t, c, "c", "3")
	wantAll(t, c, 12, "c", "e", "a", "f", "d", "b")
	wantPut(t, c, "g", "1234", "b", "d", "f")
	wantPut(t, c, "h", "12345", "a", "e", "c")
	wantPut(t, c, "i", "12345678901", "g", "h")
	wantAll(t, c, 12, "i")
}

// P7.2, P7.3: one that is asked for again and again stays, however many come and go.
func TestOneThatIsUsedAgainAndAgain(t *testing.T) {
	c := filled(t, 6, "a", "1")
	var came []string
	for n := range 300 {
		key := string([]byte{byte(n), 'k'})
		if came = append(came, key); len(came) > 2 {
			wantPut(t, c, key, "", came[n-2])
		} else {
			wantPut(t, c, key, "")
		}
		wantGet(t, c, "a", "1")
		if want := min(6, 4+2*n); c.Bytes() != want {
			t.Errorf("%d bytes; want %d", c.Bytes(), want)
		}
	}
	wantAll(t, c, 6, "a", came[299], came[298])
	wantPut(t, c, "x", "1", came[298])
	wantPut(t, c, "y", "1", came[299])
	wantPut(t, c, "z", "1", "a")
}
