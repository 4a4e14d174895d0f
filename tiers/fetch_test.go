package tiers_test

import (
	"slices"
	"testing"

	"tussock/api"
)

// P11.3: which ids far is asked for: those that are not here, each once, in order, in one call; if there are none, it is not asked.
func TestWhatFetchAsksFor(t *testing.T) {
	for _, c := range []struct{ fetch, asked string }{
		{"", ""},
		{"o", ""},
		{"n", ""},
		{"o n both o", ""},
		{"a", "a"},
		{"a a a", "a"},
		{"b a c", "b a c"},
		{"b a b c a", "b a c"},
		{"o b n a both b o", "b a"},
		{"c o", "c"},
	} {
		b := newBench(t, layout{own: "o both", near: "n both", far: "a b c", memory: 1000, disk: 100})
		never := rising("n both")
		b.wantFetch(t, c.fetch, api.OK)
		if c.asked == "" {
			b.wantAsked(t)
		} else {
			b.wantAsked(t, c.asked)
		}
		b.wantUsed(t, never[0]+" "+never[1]+" "+c.asked)
		b.wantMemory(t, "")
		b.wantFetch(t, c.fetch, api.OK)
		b.wantAsked(t)
	}
}

// P11.3: what memory alone has is not here: it is asked for; memory stays as it is.
func TestFetchAndMemory(t *testing.T) {
	b := newBench(t, layout{near: "n", far: "n a", memory: 1000, disk: 100})
	wantGet(t, b.Tiers, "n a")
	want(t, "near.Keep", b.near.Keep(idOf("a")), api.OK)
	b.wantFetch(t, "a n", api.OK)
	b.wantAsked(t, "a", "n")
	b.wantMemory(t, "a n")
	b.wantUsed(t, "a n")
}

// P11.3: without far what is not here is missing; what is here is not.
func TestFetchWithoutFar(t *testing.T) {
	b := newBench(t, layout{own: "o", near: "n"})
	x := newTiers(t, b.own, b.near, 1000, 100, nil)
	want(t, "Fetch()", x.Fetch(), api.OK)
	want(t, "Fetch(o n)", x.Fetch(ids("o n o")...), api.OK)
	want(t, "Fetch(o a n)", x.Fetch(ids("o a n")...), api.ErrMissing)
	want(t, "Fetch of no id", x.Fetch(""), api.ErrMissing)
	b.wantUsed(t, "n")
}

// P11.3: far's error is the answer, and nothing is kept.
func TestFetchWithAnErrorOfFar(t *testing.T) {
	for _, e := range farErrors {
		b := newBench(t, layout{own: "o", near: "n", far: "a b", memory: 1000, disk: 100})
		b.far.fail(e)
		b.wantFetch(t, "a o b", e)
		b.wantFetch(t, "o n", api.OK)
		b.wantAsked(t, "a b")
		b.wantUsed(t, "n")
		b.far.says = nil
		b.wantFetch(t, "a o b", api.OK)
		b.wantUsed(t, "n a b")
	}
}

// P11.3: what of one object's answers counts, and is kept.
func TestWhatFarAnswersToFetch(t *testing.T) {
	for _, c := range answers() {
		b := newBench(t, layout{memory: 1000, disk: 100})
		b.far.say(c.objs...)
		if c.counts {
			b.wantFetch(t, "a", api.OK)
			b.wantUsed(t, "a")
		} else {
			b.wantFetch(t, "a", api.ErrMissing)
			b.wantUsed(t, "")
		}
		if t.Failed() {
			t.Fatal(c.name)
		}
		b.wantMemory(t, "")
		b.wantAsked(t, "?")
	}
}

// P11.3: of several ids: all that count are kept, in the order of the answer, also where one is missing.
func TestFetchOfSeveral(t *testing.T) {
	a, b, c := of("a"), of("bb"), of("ccc")
	wrong := func(o api.Object) api.Object { return api.Object{Id: o.Id, Bytes: o.Bytes + "?"} }
	for _, x := range []struct {
		name string
		objs []api.Object
		used string
		e    api.Errno
	}{
		{"all, in order", []api.Object{a, b, c}, "a bb ccc", api.OK},
		{"all, in another order", []api.Object{c, a, b}, "ccc a bb", api.OK},
		{"all, some of them twice", []api.Object{b, b, a, c, b, a}, "bb a ccc", api.OK},
		{"all, behind wrong ones", []api.Object{wrong(a), wrong(c), c, b, wrong(b), a}, "ccc bb a", api.OK},
		{"more than was asked for", []api.Object{of("d"), a, of("o"), b, of("e"), c, of("n")}, "a bb ccc", api.OK},
		{"one missing", []api.Object{a, c}, "a ccc", api.ErrMissing},
		{"one missing, others more often", []api.Object{a, c, c, a, c}, "a ccc", api.ErrMissing},
		{"one wrong", []api.Object{c, wrong(b), a}, "ccc a", api.ErrMissing},
		{"one with another's Id", []api.Object{c, {Id: b.Id, Bytes: a.Bytes}, b}, "ccc bb", api.ErrMissing},
		{"as many others", objects("d e f"), "", api.ErrMissing},
		{"none", nil, "", api.ErrMissing},
	} {
		y := newBench(t, layout{own: "o", near: "n", far: "a bb ccc", memory: 1000, disk: 100})
		y.far.say(x.objs...)
		y.wantFetch(t, "a o bb n a ccc", x.e)
		y.wantAsked(t, "a bb ccc")
		y.wantUsed(t, "n "+x.used)
		if t.Failed() {
			t.Fatal(x.name)
		}
	}
}

// P11.3: it is no error if what came is not kept, or goes again for what comes behind it: it came.
func TestFetchOfMoreThanTheBudget(t *testing.T) {
	for _, c := range []struct {
		budget int
		used   string
	}{{6, "a bb ccc"}, {5, "bb ccc"}, {4, "ccc"}, {3, "ccc"}, {2, "bb"}, {0, ""}} {
		b := newBench(t, layout{far: "a bb ccc", memory: 1000, disk: c.budget})
		b.wantFetch(t, "a bb ccc", api.OK)
		b.wantUsed(t, c.used)
	}
	b := newBench(t, layout{far: "aa bb", memory: 1000, disk: 3})
	b.far.say(objects("aa bb aa")...)
	b.wantFetch(t, "aa bb", api.OK)
	b.wantUsed(t, "aa") // it had gone for bb, so that it is kept anew
}

// P11.3: ids of 0, 31, 33 bytes are asked for like others, and are no object's.
func TestFetchOfNoIds(t *testing.T) {
	right := idOf("a")
	b := newBench(t, layout{memory: 1000, disk: 100})
	var asked []string
	b.far.says = func(ids []string) ([]api.Object, api.Errno) {
		asked = slices.Clone(ids)
		out := objects("a")
		for _, id := range ids {
			out = append(out, api.Object{Id: id, Bytes: "a"}, api.Object{Id: id})
		}
		return out, api.OK
	}
	fetched := []string{"", right[:31], right, right + "\x00", ""}
	want(t, "Fetch", b.Fetch(fetched...), api.ErrMissing)
	wantIds(t, "asked", asked, fetched[:4])
	b.wantUsed(t, "a")
	want(t, "Fetch", b.Fetch(right), api.OK)
}

// P11.3: many ids in one call.
func TestFetchOfMany(t *testing.T) {
	b := newBench(t, layout{memory: 1000, disk: ample})
	var all, wanted []string
	for i := range 300 {
		o := of(string(rune('A' + i)))
		b.far.has = append(b.far.has, o)
		all = append(all, o.Id, b.far.has[i/2].Id)
		wanted = append(wanted, o.Id)
	}
	want(t, "Fetch", b.Fetch(all...), api.OK)
	if len(b.far.asked) != 1 || b.far.asked[0] != b.far.words(wanted) {
		t.Errorf("far was asked %d times", len(b.far.asked))
	}
	wantIds(t, "Used", b.Used(), wanted)
	for _, o := range b.far.has {
		wantObject(t, b.Tiers, o)
	}
	if len(b.far.asked) != 1 {
		t.Error("what is here is asked for afar")
	}
}
