package object_test

import (
	"math/rand"
	"testing"

	"tussock/api"
	"tussock/object"
)

// P8.5: bytes say at most one thing, which says them; that of one kind is none of another.
func TestOneToOne(t *testing.T) {
	r := draw{rand.New(rand.NewSource(85))}
	for range 4000 {
		b := r.spoilt(plainBytes(r.thing(marks[r.Intn(len(marks))])))
		said := 0
		for _, mark := range []byte(marks) {
			x, e := takeThing(mark, b)
			if e != api.OK {
				continue
			}
			said++
			if o, e := makeThing(x); e != api.OK || o.Bytes != b {
				t.Errorf("% X says %v, which says % X", head(b), x, head(o.Bytes))
			}
		}
		_, e := object.Refs(b)
		if said > 1 || (said == 1) != (e == api.OK) {
			t.Errorf("% X says %d things; Refs: %d", head(b), said, e)
		}
	}
}

// P8.5: things that are not the same have other bytes, and other ids; those that are have the same.
func TestOthersAreOthers(t *testing.T) {
	r := draw{rand.New(rand.NewSource(58))}
	things := some()
	for range 300 {
		things = append(things, r.thing(marks[r.Intn(len(marks))]))
	}
	for i, x := range things {
		o, e := makeThing(x)
		for _, y := range things[i:] {
			p, f := makeThing(y)
			if e != api.OK || f != api.OK {
				continue
			}
			alike := markOf(x) == markOf(y) && same(x, y)
			if (o.Bytes == p.Bytes) != alike || (o.Id == p.Id) != alike {
				t.Fatalf("%v and %v: % X, % X", x, y, head(o.Bytes), head(p.Bytes))
			}
		}
	}
}

// P8.5: an entry's value says one entry of a name, and that one has this value.
func TestEntriesOneToOne(t *testing.T) {
	r := draw{rand.New(rand.NewSource(5))}
	for range 5000 {
		x := r.entry()
		val := r.spoilt(plainValue(x))
		y, e := object.TakeEntry(x.Name, val)
		if e != api.OK {
			continue
		}
		if again, e := object.Entry(y); e != api.OK || again != val || y.Name != x.Name {
			t.Errorf("% X says %v, which says % X", val, y, again)
		}
	}
}
