package store_test

import (
	"slices"
	"strings"
	"testing"

	"tussock/api"
)

// P9.2: objects of all sizes that there may be, alone and together, whatever their bytes say.
func TestPutSizes(t *testing.T) {
	every := make([]byte, 256)
	for i := range every {
		every[i] = byte(i)
	}
	texts := list{"", "a", "\x00", "\xFF", "\xF5all", "\xF5add", string(every), strings.Repeat("x", 63), strings.Repeat("x", 64), strings.Repeat("x", 8191), strings.Repeat("x", 8192),
		strings.Repeat("y", api.MaxObject-1), strings.Repeat("y", api.MaxObject), strings.Repeat("\x00", api.MaxObject)}.with()
	var all []api.Object
	var has list
	d, s := storeOf(t)
	for _, text := range texts {
		all = append(all, of(text))
		want(t, "Put", s.Put(of(text)), api.OK)
		has = has.with(text)
		wantTold(t, s, has)
		wantTold(t, open(t, d.Crash(0, 0)), has)
	}
	want(t, "Pack", s.Pack(), api.OK)
	wantTold(t, open(t, d.Crash(0, 0)), texts)
	d, s = storeOf(t)
	want(t, "Put", s.Put(all...), api.OK)
	wantTold(t, s, texts)
	wantTold(t, open(t, d.Crash(0, 0)), texts)
	for _, o := range all {
		want(t, "Keep", s.Keep(o.Id), api.OK)
		wantTold(t, open(t, d.Crash(0, 0)), list{o.Bytes})
		want(t, "Put", s.Put(all...), api.OK)
		wantTold(t, open(t, d.Crash(0, 0)), texts)
	}
}

// wrong are objects that are not right.
func wrong() []api.Object {
	a, b := of("a"), of("b")
	long := strings.Repeat("z", api.MaxObject+1)
	return []api.Object{
		{}, {Bytes: "a"}, {Id: a.Id}, {Id: b.Id, Bytes: "a"}, {Id: a.Id[:31], Bytes: "a"}, {Id: a.Id + "\x00", Bytes: "a"}, {Id: a.Id[1:] + a.Id[:1], Bytes: "a"},
		{Id: a.Id + a.Id, Bytes: "a"}, {Id: strings.ToUpper(a.Id) + " ", Bytes: "a"}, {Id: of("").Id, Bytes: "a"}, {Id: a.Id, Bytes: ""}, {Id: a.Id, Bytes: "a\x00"},
		of(long), of(long + long), {Id: "", Bytes: long}, {Id: a.Id, Bytes: long}, {Id: strings.Repeat("\x00", 32), Bytes: "a"}, {Id: "a", Bytes: "a"},
	}
}

// P9.2: one object that is not right, wherever it stands among others, also among those that are there: nothing is laid, and the disk is not even asked.
func TestPutOfWrongObjects(t *testing.T) {
	for _, o := range wrong() {
		for _, s := range states() {
			d, x := s.make(t)
			before, ops := snapshot(d), d.Ops()
			d.FailAt(ops, ops+1, ops+2)
			for _, objs := range [][]api.Object{{o}, {of("new"), o}, {o, of("new")}, {of("a"), o}, {of("new"), of("a"), o, of("newer")}, {o, o}} {
				want(t, s.name+": Put", x.Put(objs...), api.ErrStoreForm)
			}
			if snapshot(d) != before || d.Ops() != ops {
				t.Errorf("%s: the disk was asked", s.name)
			}
			d.CutAt(0)
			want(t, "Put with the power gone", x.Put(of("new"), o), api.ErrStoreForm)
			d.CutAt(-1)
			d = now(d)
			x = open(t, d)
			wantTold(t, x, s.has)
			want(t, "Put", x.Put(of("new")), api.OK)
			wantGood(t, d, s.has.plus("new"))
		}
	}
}

// P9.2, P9.5: no objects, one twice, all there, some there; what is there already costs nothing.
func TestPutOfWhatIsThere(t *testing.T) {
	for _, s := range states() {
		d, x := s.make(t)
		for range 2 {
			ops := d.Ops()
			want(t, "Put of none", x.Put(), api.OK)
			want(t, "Put of none", x.Put([]api.Object{}...), api.OK)
			want(t, "Put of all", x.Put(objects(strings.Join(s.has, " "))...), api.OK)
			for _, word := range s.has {
				want(t, "Put", x.Put(of(word)), api.OK)
				want(t, "Put twice", x.Put(of(word), of(word)), api.OK)
			}
			if d.Ops() != ops {
				t.Errorf("%s: a Put of what is there takes %d operations", s.name, d.Ops()-ops)
			}
			wantTold(t, x, s.has)
		}
		want(t, "Put of one twice", x.Put(of("x"), of("x"), of("x")), api.OK)
		wantTold(t, x, s.has.plus("x"))
		want(t, "Put of some", x.Put(objects("y a x z y a")...), api.OK)
		wantTold(t, x, s.has.plus("a x y z"))
		wantGood(t, d, s.has.plus("a x y z"))
		ops := d.Ops()
		want(t, "Put of all", x.Put(objects("y a x z y a")...), api.OK)
		if d.Ops() != ops {
			t.Errorf("%s: a Put of what is there takes %d operations", s.name, d.Ops()-ops)
		}
	}
}

// P9.2: a Put of what is there is answered with the power gone, too, since the disk is not asked.
func TestPutOfWhatIsThereWithoutPower(t *testing.T) {
	d, s := storeOf(t, "a b", "c")
	d.CutAt(0)
	want(t, "Put", s.Put(objects("c a b")...), api.OK)
	want(t, "Put", s.Put(objects("c a d")...), api.ErrDiskOff)
}

// P9.2: many objects in one Put, and in as many.
func TestManyObjects(t *testing.T) {
	const many = 2000
	var all []api.Object
	var texts list
	for i := range many {
		text := strings.Repeat(string(rune('a'+i%26)), i/26)
		all = append(all, of(text))
		texts = append(texts, text)
	}
	d := newDisk(t, 1<<24)
	s := open(t, d)
	want(t, "Put", s.Put(all...), api.OK)
	wantTold(t, open(t, d.Crash(0, 0)), texts.with())
	d = newDisk(t, 1<<24)
	s = open(t, d)
	for _, o := range all {
		want(t, "Put", s.Put(o), api.OK)
	}
	wantTold(t, open(t, d.Crash(0, 0)), texts.with())
	want(t, "Pack", s.Pack(), api.OK)
	wantTold(t, s, texts.with())
	wantTold(t, open(t, d.Crash(0, 0)), texts.with())
}

// P9.2: in each state each call does what it is to do, for good, and leaves nothing loose.
func TestCallsInEachState(t *testing.T) {
	for _, s := range states() {
		for _, c := range calls() {
			d, x := s.make(t)
			others := d.Loose()
			want(t, c.name, c.do(x), api.OK)
			has := c.list(s.has)
			wantTold(t, x, has)
			wantGood(t, d, has)
			if d.Loose() > others {
				t.Errorf("%s in %s leaves %d loose acts", c.name, s.name, d.Loose())
			}
			for _, next := range calls() {
				want(t, c.name+", "+next.name, next.do(x), api.OK)
				has = next.list(has)
				wantTold(t, x, has)
				wantGood(t, d, has)
			}
		}
	}
}

// P9.7: in which order objects come, and how they are put together, makes no difference.
func TestOrderAndGrouping(t *testing.T) {
	groupings := [][]string{{"a b c d e f"}, {"f e d c b a"}, {"a", "b", "c", "d", "e", "f"}, {"f", "e", "d", "c", "b", "a"}, {"a b", "b c", "c d", "d e", "e f", "f a"}, {"c", "a b c d", "f e"}, {"d d d", "", "a c b", "e a", "f"}}
	var packed []string
	for _, puts := range groupings {
		d, s := storeOf(t, puts...)
		wantTold(t, s, words("a b c d e f"))
		wantGood(t, d, words("a b c d e f"))
		first, _ := storeOf(t, groupings[0]...)
		if got, want := s.Ids(), open(t, first).Ids(); !slices.Equal(got, want) {
			t.Errorf("%q: %x; want %x", puts, got, want)
		}
		want(t, "Keep", s.Keep(ids("f b d")...), api.OK)
		wantTold(t, s, words("b d f"))
		name := d.Names()[0]
		b, _ := d.Read(name)
		packed = append(packed, string(b[len(b)-3:]))
	}
	if len(slices.Compact(packed)) != 1 {
		t.Errorf("what was kept lies in the orders %q", packed)
	}
}
