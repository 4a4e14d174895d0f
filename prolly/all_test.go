package prolly_test

import (
	"math/rand"
	"slices"
	"testing"

	"tussock/api"
	"tussock/prolly"
)

// tells are the steps of pairs that are told.
func tells(pairs ...api.Pair) []step {
	var out []step
	for _, p := range pairs {
		out = append(out, step{Pair: p})
	}
	return out
}

// stepsOfSmall are those of the small map, from its beginning on.
func stepsOfSmall(x small) []step {
	return slices.Concat(
		asks(idsOf(x.root, x.left, x.bd)...), tells(letters("bd")...),
		asks(x.fh.Id), tells(letters("fh")...),
		asks(idsOf(x.right, x.k)...), tells(letters("k")...),
		asks(x.mpr.Id), tells(letters("mpr")...),
	)
}

// P12.3: each pair with OK, and each node when its first pair is due.
func TestAllOfASmallMap(t *testing.T) {
	x := newSmall()
	wantSteps(t, "from the beginning on", x.shelf, x.root.Id, "", -1, stepsOfSmall(x))
	wantSteps(t, "from a on", x.shelf, x.root.Id, "a", -1, stepsOfSmall(x))
	wantSteps(t, "from d on", x.shelf, x.root.Id, "d", -1, slices.Concat(asks(idsOf(x.root, x.left, x.bd)...), tells(letters("d")...), stepsOfSmall(x)[5:]))
	wantSteps(t, "from e on", x.shelf, x.root.Id, "e", -1, slices.Concat(asks(idsOf(x.root, x.left)...), stepsOfSmall(x)[5:]))
	wantSteps(t, "from i on", x.shelf, x.root.Id, "i", -1, slices.Concat(asks(x.root.Id), stepsOfSmall(x)[8:]))
	wantSteps(t, "from r on", x.shelf, x.root.Id, "r", -1, slices.Concat(asks(idsOf(x.root, x.right, x.mpr)...), tells(letters("r")...)))
	wantSteps(t, "from s on", x.shelf, x.root.Id, "s", -1, asks(x.root.Id))
	wantSteps(t, "from no key on", x.shelf, x.root.Id, repeated('d', 65), -1, slices.Concat(asks(idsOf(x.root, x.left)...), stepsOfSmall(x)[5:]))
}

// P12.3: who leaves early asks for nothing more: neither behind a leaf's last pair nor within one.
func TestAllLeftEarly(t *testing.T) {
	x := newSmall()
	whole := stepsOfSmall(x)
	for n := 1; n <= 9; n++ {
		wantSteps(t, "left early", x.shelf, x.root.Id, "", n, upTo(whole, n))
	}
	wantSteps(t, "left at a leaf's end", x.shelf, x.root.Id, "", 2, whole[:5])
	wantSteps(t, "left at a branch's end", x.shelf, x.root.Id, "", 4, whole[:8])
}

// P12.3: an iterator that nobody goes through asks for nothing.
func TestAllAsksWhenItIsBegun(t *testing.T) {
	x := newSmall()
	all := prolly.All(x.get, x.root.Id, "")
	wantAsked(t, "not begun", x.shelf)
	if all == nil {
		t.Fatal("no iterator")
	}
	all(func(api.Pair, api.Errno) bool { return false })
	wantAsked(t, "begun", x.shelf, idsOf(x.root, x.left, x.bd)...)
}

// P12.3, R7: one iterator is gone through several times, also while it is gone through; each time what there is then.
func TestAllAgain(t *testing.T) {
	x := newSmall()
	all := prolly.All(x.get, x.root.Id, "")
	for _, most := range []int{-1, 1, 3, -1, 8, -1} {
		x.steps = nil
		n := 0
		for p, e := range all {
			x.steps = append(x.steps, step{Pair: p, e: e})
			if n++; n == most {
				break
			}
		}
		if want := upTo(stepsOfSmall(x), most); !slices.Equal(x.steps, want) {
			t.Errorf("left after %d: %s; want %s", most, told(x.steps), told(want))
		}
	}
	outer, inner := "", ""
	for p := range all {
		outer += p.Key
		for q := range all {
			if inner += q.Key; q.Key >= p.Key {
				break
			}
		}
		inner += "."
	}
	if outer != "bdfhkmpr" || inner != "b.bd.bdf.bdfh.bdfhk.bdfhkm.bdfhkmp.bdfhkmpr." {
		t.Errorf("one within the other: %s; %s", outer, inner)
	}
	delete(x.has, x.root.Id)
	x.has[x.root.Id] = plainLeaf(letters("x"))
	for p, e := range all {
		if p != letters("x")[0] || e != api.OK {
			t.Errorf("what there is now: %v %d", p, e)
		}
	}
}

// P12.3: an error is told once, with a pair without anything, at its place, and ends it, whatever who is told says.
func TestAllWithErrors(t *testing.T) {
	x := newSmall()
	nodes := idsOf(x.root, x.left, x.bd, x.fh, x.right, x.k, x.mpr)
	for _, id := range nodes {
		for _, e := range errorsOfGet {
			x.errs[id] = e
			whole := stepsOfSmall(x)
			at := slices.Index(whole, step{asked: id}) + 1
			want := append(slices.Clone(whole[:at]), step{e: e})
			wantSteps(t, "an error of get", x.shelf, x.root.Id, "", -1, want)
			wantGone(t, "an error of get", x.shelf, x.root.Id, "")
			wantGone(t, "an error of get", x.shelf, x.root.Id, "g")
			for _, goOn := range []bool{true, false} {
				errs := 0
				prolly.All(x.look, x.root.Id, "")(func(p api.Pair, got api.Errno) bool {
					if errs > 0 {
						t.Error("told behind an error")
					}
					if got != api.OK {
						errs++
						if got != e || p != (api.Pair{}) {
							t.Errorf("%v %d; want %d alone", p, got, e)
						}
						return goOn
					}
					return true
				})
				if errs != 1 {
					t.Errorf("the error is told %d times", errs)
				}
			}
			delete(x.errs, id)
		}
		was := x.has[id]
		x.has[id] = "nothing"
		wantGone(t, "a broken node", x.shelf, x.root.Id, "")
		delete(x.has, id)
		wantGone(t, "a missing node", x.shelf, x.root.Id, "")
		x.has[id] = was
	}
}

// P12.3: the pairs ahead of one that is out of place are told, it is not.
func TestAllOfPairsOutOfPlace(t *testing.T) {
	s, one, two, root := overlapping()
	wantSteps(t, "out of place", s, root, "", -1, slices.Concat(asks(root, one.Id), tells(letters("bdh")...), asks(two.Id), []step{{e: api.ErrProllyCorrupt}}))
	wantSteps(t, "out of place, left early", s, root, "", 3, slices.Concat(asks(root, one.Id), tells(letters("bdh")...)))
	wantSteps(t, "what is not looked at", s, root, "g", -1, slices.Concat(asks(root, one.Id), tells(letters("h")...), asks(two.Id), tells(letters("m")...)))
	wantGone(t, "out of place", s, root, "d")
}

// P12.3: the pair behind which an error comes may be the last one that somebody wants.
func TestAllLeftAheadOfAnError(t *testing.T) {
	x := newSmall()
	x.errs[x.fh.Id] = api.ErrMissing
	for n := 1; n <= 3; n++ {
		want := upTo(slices.Concat(stepsOfSmall(x)[:6], []step{{e: api.ErrMissing}}), n)
		wantSteps(t, "ahead of an error", x.shelf, x.root.Id, "", n, want)
	}
}

// P12.3: built maps of each size.
func TestAllOfBuiltMaps(t *testing.T) {
	r := rand.New(rand.NewSource(4))
	for _, n := range sizesAtEdges {
		for _, pairs := range [][]api.Pair{numbered(n), drawnPairs(r, n)} {
			s, root := built(t, pairs...)
			wantGone(t, "a built map", s, root, "")
			places := around(pairs)
			for range 10 {
				wantGone(t, "a built map", s, root, places[r.Intn(len(places))])
			}
			var got []api.Pair
			for p, e := range prolly.All(s.get, root, "") {
				if e != api.OK {
					t.Fatal(e)
				}
				got = append(got, p)
			}
			if !slices.Equal(got, pairs) {
				t.Errorf("%d pairs; want %d", len(got), n)
			}
		}
	}
}

// R4: a nil get is none: ErrNil, behind the errors that the promises name first.
func TestNilGet(t *testing.T) {
	if val, ok, e := prolly.Find(nil, id('r'), "a"); val != "" || ok || e != api.ErrNil {
		t.Errorf("Find: %q %t %d", val, ok, e)
	}
	if _, _, e := prolly.Find(nil, id('r'), ""); e != api.ErrArg {
		t.Errorf("Find of no key: %d", e)
	}
	if l, e := prolly.List(nil, id('r'), "b", "a"); len(l) != 0 || e != api.ErrNil {
		t.Errorf("List: %v %d", l, e)
	}
	if n, e := prolly.Many(nil, id('r')); n != 0 || e != api.ErrNil {
		t.Errorf("Many: %d %d", n, e)
	}
	root, objs, e := prolly.Edit(nil, id('r'))
	wantNoMap(t, "Edit", root, objs, e, api.ErrNil)
	root, objs, e = prolly.Edit(nil, id('r'), api.Put{})
	wantNoMap(t, "Edit of no key", root, objs, e, api.ErrProllyForm)
	root, objs, e = prolly.Edit(nil, id('r'), putsOf(numbered(5000)...)...)
	wantNoMap(t, "Edit of too many", root, objs, e, api.ErrNil)
	var got []step
	for p, e := range prolly.All(nil, id('r'), "") {
		got = append(got, step{Pair: p, e: e})
	}
	if !slices.Equal(got, []step{{e: api.ErrNil}}) {
		t.Errorf("All: %s", told(got))
	}
}
