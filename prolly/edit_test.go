package prolly_test

import (
	"math/rand"
	"slices"
	"strconv"
	"testing"

	"tussock/api"
	"tussock/prolly"
)

// P12.4: the chapter's examples.
func TestExamplesOfEdit(t *testing.T) {
	s, root := built(t, api.Pair{Key: "a", Val: "1"}, api.Pair{Key: "b", Val: "2"})
	now, objs, e := prolly.Edit(s.get, root, api.Put{Key: "b", Val: "3"}, api.Put{Key: "a", Gone: true})
	wantMade(t, "Edit", now, objs, e, []api.Pair{{Key: "b", Val: "3"}})
	if n, e := prolly.Many(shelfOf(objs...).get, now); n != 1 || e != api.OK {
		t.Errorf("Many: %d %d", n, e)
	}
	now, objs, e = prolly.Edit(s.get, root, api.Put{})
	wantNoMap(t, "Edit of a key of no bytes", now, objs, e, api.ErrProllyForm)
}

// P12.4: what becomes of the pairs, put by put.
func TestEditOfASmallMap(t *testing.T) {
	x := newSmall()
	lay := func(key, val string) api.Put { return api.Put{Key: key, Val: val} }
	take := func(key string) api.Put { return api.Put{Key: key, Gone: true} }
	for what, puts := range map[string][]api.Put{
		"no puts":                        nil,
		"laid ahead":                     {lay("a", "1")},
		"laid between":                   {lay("e", "1")},
		"laid behind":                    {lay("z", "1")},
		"laid over":                      {lay("d", "1")},
		"laid as it is":                  {lay("d", "value of d")},
		"laid empty":                     {lay("d", "")},
		"taken away":                     {take("k")},
		"the first taken away":           {take("b")},
		"the last taken away":            {take("r")},
		"taken away, not there":          {take("c")},
		"taken away twice":               {take("k"), take("k")},
		"all taken away":                 gone("b", "d", "f", "h", "k", "m", "p", "r"),
		"laid twice":                     {lay("e", "1"), lay("e", "2")},
		"laid thrice, the first one's":   {lay("e", "1"), lay("e", "2"), lay("e", "1")},
		"laid and taken away":            {lay("e", "1"), take("e")},
		"taken away and laid":            {take("d"), lay("d", "1")},
		"taken away and laid as it was":  {take("d"), lay("d", "value of d")},
		"laid, taken away and laid":      {lay("e", "1"), take("e"), lay("e", "3")},
		"taken away, laid, taken away":   {take("d"), lay("d", "1"), take("d")},
		"puts of two keys, by turns":     {lay("e", "1"), lay("d", "1"), lay("e", "2"), take("d"), lay("d", "4")},
		"falling keys":                   {lay("z", "1"), lay("y", "2"), lay("x", "3"), lay("a", "4")},
		"a long key and a long value":    {lay(repeated('k', 64), repeated('v', 128))},
		"taken away, a long key":         {take(repeated('k', 64))},
		"all taken away, and one laid":   append(gone("b", "d", "f", "h", "k", "m", "p", "r"), lay("d", "1")),
		"bytes that are no text's":       {lay("\xff\x00", "\x00\xff"), lay("\x00", "\x00")},
		"the same put a thousand times":  slices.Repeat([]api.Put{lay("e", "1")}, 1000),
		"by turns, a thousand times":     slices.Repeat([]api.Put{lay("e", "1"), take("e")}, 500),
		"by turns, a thousand and a one": append(slices.Repeat([]api.Put{lay("e", "1"), take("e")}, 500), lay("e", "2")),
	} {
		wantEdited(t, what, x.shelf, x.root.Id, puts...)
	}
	now, objs, e := prolly.Edit(x.get, x.root.Id, take("d"), lay("e", "1"), lay("d", "2"), take("r"), take("e"), lay("a", "3"))
	wantMade(t, "Edit", now, objs, e, slices.Concat([]api.Pair{{Key: "a", Val: "3"}}, letters("b"), []api.Pair{{Key: "d", Val: "2"}}, letters("fhkmp")))
}

// P12.4: puts that are not right, at each place: ErrProllyForm ahead of all that get could answer, which is not asked.
func TestEditOfWrongPuts(t *testing.T) {
	x := newSmall()
	wrong := []api.Put{
		{}, {Val: "v"}, {Gone: true}, {Key: repeated('k', 65)}, {Key: repeated('k', 65), Gone: true}, {Key: repeated('k', 1000), Val: "v"},
		{Key: "k", Val: repeated('v', 129)}, {Key: "k", Val: repeated('v', 100000)},
		{Key: "k", Val: "v", Gone: true}, {Key: "z", Val: "v", Gone: true}, {Key: "k", Val: "value of k", Gone: true}, {Key: "k", Val: repeated('v', 129), Gone: true}, {Val: "v", Gone: true},
	}
	right := []api.Put{{Key: "a", Val: repeated('v', 128)}, {Key: repeated('k', 64), Gone: true}}
	for _, root := range []string{x.root.Id, id('x'), ""} {
		for _, w := range wrong {
			for _, puts := range [][]api.Put{{w}, {w, right[0], right[1]}, {right[0], w, right[1]}, {right[0], right[1], w}, append(putsOf(numbered(5000)...), w)} {
				x.steps = nil
				now, objs, e := prolly.Edit(x.get, root, puts...)
				wantNoMap(t, "wrong puts", now, objs, e, api.ErrProllyForm)
				wantAsked(t, "wrong puts", x.shelf)
			}
		}
	}
	wantEdited(t, "right puts", x.shelf, x.root.Id, right...)
}

// P12.4: all pairs are listed: each error that is met on the way is the answer, and nothing is asked behind it.
func TestEditWithErrors(t *testing.T) {
	x := newSmall()
	puts := append(putsOf(letters("ace")...), gone("b", "r")...)
	for _, link := range []api.Link{x.root, x.left, x.bd, x.fh, x.right, x.k, x.mpr} {
		for _, e := range errorsOfGet {
			x.errs[link.Id] = e
			for _, p := range [][]api.Put{nil, puts, putsOf(numbered(5000)...)} {
				now, objs, got := prolly.Edit(x.get, x.root.Id, p...)
				wantNoMap(t, "an error of get", now, objs, got, e)
				wantEdited(t, "an error of get", x.shelf, x.root.Id, p...)
			}
		}
		delete(x.errs, link.Id)
		was := x.has[link.Id]
		x.has[link.Id] = "nothing"
		wantEdited(t, "a broken node", x.shelf, x.root.Id, puts...)
		delete(x.has, link.Id)
		wantEdited(t, "a missing node", x.shelf, x.root.Id, puts...)
		x.has[link.Id] = was
	}
	s, _, _, root := overlapping()
	now, objs, e := prolly.Edit(s.get, root, gone("b", "c", "d", "f", "h", "m")...)
	wantNoMap(t, "pairs out of place", now, objs, e, api.ErrProllyCorrupt)
}

// P12.4: how many pairs there are counts behind all puts, not meanwhile.
func TestEditAtTheMost(t *testing.T) {
	pairs := numbered(4200)
	full, root := built(t, pairs[:4096]...)
	for _, c := range []struct {
		what string
		puts []api.Put
		want []api.Pair
	}{
		{"nothing", nil, pairs[:4096]},
		{"one more", putsOf(pairs[4096]), nil},
		{"one over", putsOf(pairs[4000]), pairs[:4096]},
		{"one more, and it goes", append(putsOf(pairs[4096]), gone(pairs[4096].Key)...), pairs[:4096]},
		{"one more, and another one goes", append(putsOf(pairs[4096]), gone(pairs[0].Key)...), pairs[1:4097]},
		{"one goes, and one more", append(gone(pairs[0].Key), putsOf(pairs[4096])...), pairs[1:4097]},
		{"two more, and one goes", append(putsOf(pairs[4096:4098]...), gone(pairs[0].Key)...), nil},
		{"one goes twice, and two more", append(gone(pairs[0].Key, pairs[0].Key), putsOf(pairs[4096:4098]...)...), nil},
		{"100 more, and 100 go", append(putsOf(pairs[4096:4196]...), gone(keysOf(pairs[:100])...)...), pairs[100:4196]},
		{"one goes that is not there, and one more", append(gone("x"), putsOf(pairs[4096])...), nil},
	} {
		now, objs, e := prolly.Edit(full.get, root, c.puts...)
		if c.want == nil {
			wantNoMap(t, c.what, now, objs, e, api.ErrProllyMany)
		} else {
			wantMade(t, c.what, now, objs, e, c.want)
		}
		wantEdited(t, c.what, full, root, c.puts...)
	}
	empty, root := built(t)
	for _, n := range []int{4095, 4096, 4097, 4200} {
		wantEdited(t, strconv.Itoa(n)+" of none", empty, root, putsOf(pairs[:n]...)...)
	}
	many := numbered(30000)
	wantEdited(t, "far too many, and most go", empty, root, append(putsOf(many...), gone(keysOf(many[100:])...)...)...)
}

func keysOf(pairs []api.Pair) []string {
	var out []string
	for _, p := range pairs {
		out = append(out, p.Key)
	}
	return out
}

// P12.4: a map of another shape than Build gives is built anew, with puts or without; all its objects are told, also those that get has.
func TestEditBuildsAnew(t *testing.T) {
	x := newSmall()
	now, objs, e := prolly.Edit(x.get, x.root.Id)
	wantMade(t, "another shape", now, objs, e, letters("bdfhkmpr"))
	if now == x.root.Id {
		t.Error("the small map is one that Build makes")
	}
	s, root := built(t, numbered(1000)...)
	again, objs, e := prolly.Edit(s.get, root)
	wantMade(t, "the same shape", again, objs, e, numbered(1000))
	if again != root || len(objs) != len(s.has) {
		t.Errorf("%d objects of %d", len(objs), len(s.has))
	}
}

// P12.4: drawn puts, done to drawn maps.
func TestEditOfBuiltMaps(t *testing.T) {
	r := rand.New(rand.NewSource(5))
	for _, n := range sizesAtEdges {
		pairs := drawnPairs(r, n)
		s, root := built(t, pairs...)
		for _, many := range []int{0, 1, 2, 10, 100} {
			var puts []api.Put
			for range many {
				p := api.Put{Key: drawn(r, 1+r.Intn(2)), Val: drawn(r, r.Intn(129))}
				if n > 0 && r.Intn(2) == 0 {
					p.Key = pairs[r.Intn(n)].Key
				}
				if r.Intn(3) == 0 {
					p.Val, p.Gone = "", true
				}
				puts = append(puts, p)
			}
			wantEdited(t, "drawn", s, root, puts...)
		}
	}
}
