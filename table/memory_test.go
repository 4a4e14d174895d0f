package table_test

import (
	"slices"
	"testing"
	"unsafe"

	"tussock/api"
	"tussock/table"
)

// lender hands out texts that their owner changes afterwards all the same.
type lender struct{ lent [][]byte }

func (l *lender) lend(s string) string {
	b := []byte(s)
	l.lent = append(l.lent, b)
	return unsafe.String(unsafe.SliceData(b), len(b))
}

// takeBack writes over all that was lent.
func (l *lender) takeBack() {
	for _, b := range l.lent {
		for i := range b {
			b[i] = '!'
		}
	}
}

func (l *lender) puts(words string) []api.Put {
	var out []api.Put
	for _, p := range puts(words) {
		out = append(out, api.Put{Key: l.lend(p.Key), Val: l.lend(p.Val), Gone: p.Gone})
	}
	return out
}

// R3: puts are neither written into, nor is their spare room, nor kept, and neither are their texts, nor the name; whether the Commit was done or not.
func TestWhatIsHandedInStays(t *testing.T) {
	for _, full := range []bool{false, true} {
		var l lender
		d := newDisk(t, ample)
		x, e := table.Open(d, l.lend("t"))
		want(t, "Open", e, api.OK)
		var now list
		for _, words := range []string{"b=2 a=1 key=value", "-a c=3 c=4 key=other", "-b b=5 d=", "e=6"} {
			room := append(l.puts(words), puts("spare=room -spare")...)
			before := slices.Clone(room)
			last := len(room) - 2
			if full {
				d.SetRoom(0)
				want(t, "Commit on a full disk", x.Commit(room[:last]...), api.ErrDiskFull)
				d.SetRoom(ample)
			}
			want(t, "Commit", x.Commit(room[:last]...), api.OK)
			if !slices.Equal(room, before) {
				t.Errorf("Commit wrote into %v", room)
			}
			for i := range room {
				room[i] = put("changed", "changed")
			}
			l.takeBack()
			now = now.with(puts(words)...)
			wantTold(t, x, now)
			wantGood(t, d, now)
		}
		want(t, "Commit of great puts", x.Commit(great()...), api.OK)
		wantGood(t, d, now.with(great()...))
		if got := d.Names(); !slices.Equal(got, []string{"t"}) {
			t.Errorf("the files %q", got)
		}
	}
}

// R3: what All answers is the caller's: no two lists share memory, nor does the table.
func TestWhatIsHandedOutIsNew(t *testing.T) {
	d, x := tableOf(t, "a=1 ab=2 b=3 c=4 d=5")
	for _, prefix := range []string{"", "a", "b", "none"} {
		one, other := x.All(prefix), x.All(prefix)
		before := slices.Clone(other)
		for i := range one[:cap(one)] {
			one[:cap(one)][i] = api.Pair{Key: "changed", Val: "changed"}
		}
		_ = append(one[:0], api.Pair{Key: "more"})
		if !slices.Equal(other, before) || !slices.Equal(x.All(prefix), before) {
			t.Error("All: lists share memory")
		}
	}
	want(t, "Commit", x.Commit(great()...), api.OK)
	wantTold(t, x, has("a=1 ab=2 b=3 c=4 d=5 x=small"))
	wantGood(t, d, has("a=1 ab=2 b=3 c=4 d=5 x=small"))
}

// R3, R4: what All answered stays as it was, whatever is done to the table.
func TestWhatWasToldStays(t *testing.T) {
	_, x := tableOf(t, "a=1 b=2 c=3")
	all, one := x.All(""), x.All("b")
	val, _ := x.Get("a")
	want(t, "Commit", x.Commit(puts("-a b=9 d=4")...), api.OK)
	if !list(all).is(has("a=1 b=2 c=3")) || !list(one).is(has("b=2")) || val != "1" {
		t.Errorf("what was told is %v, %v, %q now", all, one, val)
	}
}

// R4: two tables know nothing of one another, on two disks under one name.
func TestTwoDisks(t *testing.T) {
	d, x := tableOf(t, "a=1")
	k, y := tableOf(t, "b=2")
	want(t, "Commit", x.Commit(puts("c=3")...), api.OK)
	want(t, "Commit", y.Commit(puts("-b")...), api.OK)
	wantTold(t, x, has("a=1 c=3"))
	wantTold(t, y, nil)
	wantGood(t, d, has("a=1 c=3"))
	wantGood(t, k, nil)
}
