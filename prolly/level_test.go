package prolly

import (
	"crypto/sha256"
	"fmt"
	"slices"
	"testing"

	"tussock/api"
)

// linkLike is a link whose last key is the first one behind a prefix of whose sum the byte of a level is as it is wanted, and those of the levels beside it are not.
func linkLike(prefix string, level int, loud bool) api.Link {
	for n := 0; ; n++ {
		key := fmt.Sprint(prefix, n)
		sum := sha256.Sum256([]byte(key))
		ends := func(l int) bool { return sum[31-l]%16 == 0 }
		if ends(level) == loud && ends(level-1) != loud && ends(level+1) != loud {
			return api.Link{Last: key, Id: fmt.Sprintf("%032d", n), Many: 1}
		}
	}
}

// P12.1: each level's groups end by that level's own byte. (No keys are known of which Build makes the highest levels that 4096 pairs can have, so what lays one level is asked here.)
func TestEachLevelHasItsOwnByte(t *testing.T) {
	for level := 1; level <= 12; level++ {
		var below []api.Link
		for i, c := range "qqLqLLLqq" {
			below = append(below, linkLike(fmt.Sprintf("%02d.", i), level, c == 'L'))
		}
		b := building{laid: map[string]struct{}{}}
		var sizes []int
		for i, l := range b.layBranches(level, below) {
			n, ok := takeNode(b.objects[i].Bytes)
			if !ok || n.Level != level || l.Id != b.objects[i].Id || l.Many != int64(len(n.Kids)) {
				t.Errorf("level %d: the node %d is %v", level, i, n)
			}
			sizes = append(sizes, len(n.Kids))
		}
		if want := []int{3, 2, 2, 2}; !slices.Equal(sizes, want) {
			t.Errorf("level %d: groups of %d; want %d", level, sizes, want)
		}
	}
}
