package prolly_test

import (
	"fmt"
	"slices"
	"strconv"
	"testing"

	"tussock/api"
)

// keyLike is a key that begins with a prefix, and that ends nodes of some levels, and none of some others.
func keyLike(prefix string, loud, quiet []int) string {
	for n := 0; ; n++ {
		key := prefix + "." + strconv.Itoa(n)
		no := func(level int) bool { return !isLoud(key, level) }
		yes := func(level int) bool { return isLoud(key, level) }
		if !slices.ContainsFunc(loud, no) && !slices.ContainsFunc(quiet, yes) {
			return key
		}
	}
}

// rowOfKeys are rising keys, one for each sign: of a capital letter one that ends a leaf, of another sign one that does not.
func rowOfKeys(signs string) []api.Pair {
	var keys []string
	for i, c := range signs {
		prefix := fmt.Sprintf("%04d", i)
		if c >= 'A' && c <= 'Z' {
			keys = append(keys, keyLike(prefix, []int{0}, nil))
		} else {
			keys = append(keys, keyLike(prefix, nil, []int{0}))
		}
	}
	return pairsOf(keys...)
}

// rowOfLeaves are rising keys each of which is a leaf of its own, one for each sign: a digit says the one level whose nodes it ends besides, of those from 1 to 4; another sign that it ends none of these.
func rowOfLeaves(signs string) []api.Pair {
	var keys []string
	for i, c := range signs {
		loud, quiet := []int{0}, []int{1, 2, 3, 4}
		if level := int(c - '0'); level >= 1 && level <= 4 {
			loud = append(loud, level)
			quiet = slices.DeleteFunc(quiet, func(l int) bool { return l == level })
		}
		keys = append(keys, keyLike(fmt.Sprintf("%04d", i), loud, quiet))
	}
	return pairsOf(keys...)
}

// rareKeys end nodes of so many levels, from 0 on, that they were looked for ahead: 16 times as many keys had to be tried for each level more.
func rareKeys() map[int]string {
	return map[int]string{
		16: "0016000000001b52", 48: "004800000001619c", 80: "008000000005b3fc", 112: "01120000000dd391",
		144: "014400000015c394", 176: "01760000000dd957", 208: "0208000000076414", 240: "024000000009258e",
		32: "003200000238d4dd", 96: "0096000002919d39", 160: "01600000003f3c54", 224: "0224000000cf64b3",
		64: "006400000da6a813", 192: "01920000256761dd",
		128: "0128000182c981f4",
		256: "0256000a0ed31356",
	}
}

// halving are n rising keys each of which is a leaf of its own: the second, the fourth and so on end nodes of level 1, the fourth, the eighth and so on those of level 2, and so on: each level has half as many nodes as the one below, and the one that is left over, so that there are as many levels as can be.
func halving(n int) []api.Pair {
	rare := rareKeys()
	var keys []string
	for place := 1; place <= n; place++ {
		loud := []int{0}
		for level := 1; place%(1<<level) == 0; level++ {
			loud = append(loud, level)
		}
		key, ok := rare[place]
		if !ok {
			key = keyLike(fmt.Sprintf("%04d", place), loud, nil)
		}
		keys = append(keys, key)
	}
	return pairsOf(keys...)
}

// The keys that were looked for ahead are what they are said to be.
func TestRareKeys(t *testing.T) {
	for place, key := range rareKeys() {
		for level := 0; place%(1<<level) == 0; level++ {
			if !isLoud(key, level) {
				t.Errorf("%s ends no node of level %d", key, level)
			}
		}
	}
}
