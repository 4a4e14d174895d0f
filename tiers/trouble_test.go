package tiers_test

import (
	"math/rand"
	"slices"
	"testing"

	"tussock/api"
	"tussock/disk"
)

// trouble is tiers whose disks do what they like: operations fail, room is short, bytes turn, if it is to be so.
type trouble struct {
	*bench
	*rand.Rand
	turns  bool
	budget int
}

func newTrouble(t testing.TB, seed int64, turns bool) *trouble {
	r := rand.New(rand.NewSource(seed))
	x := &trouble{newBench(t, layout{}), r, turns, r.Intn(60)}
	for i := range 10 {
		x.far.has = append(x.far.has, nth(i))
		if i%3 == 0 {
			want(t, "own.Put", x.own.Put(nth(i)), api.OK)
		}
	}
	x.join(t, r.Intn(200), x.budget)
	return x
}

// harm does something to a disk.
func (x *trouble) harm(d *disk.Disk) {
	switch x.Intn(6) {
	case 0, 1:
		d.FailAt(d.Ops() + x.Intn(12))
	case 2:
		d.FailAt(d.Ops(), d.Ops()+1+x.Intn(3), d.Ops()+4)
	case 3:
		d.SetRoom(x.Intn(1000))
	case 4:
		d.SetRoom(ample)
	case 5:
		names := d.Names()
		if !x.turns || len(names) == 0 {
			return
		}
		name := names[x.Intn(len(names))]
		if size := d.Size(name); size > 0 {
			d.Turn(name, x.Intn(size), byte(1+x.Intn(255)))
		}
	}
}

// get asks for an object: its bytes, or an error; from afar only if it is not here, or bytes may have turned.
func (x *trouble) get(t testing.TB) {
	t.Helper()
	o := nth(x.Intn(10))
	isHere := x.own.Has(o.Id) || x.near.Has(o.Id)
	x.far.asked = nil
	got, e := x.Get(o.Id)
	if e == api.OK && got != o.Bytes || e != api.OK && got != "" {
		t.Fatalf("Get(%q's id): %q, %d", head(o.Bytes), head(got), e)
	}
	if e != api.OK && !isHere {
		t.Fatalf("Get of what far has: %d", e)
	}
	if len(x.far.asked) > 1 || len(x.far.asked) == 1 && isHere && !x.turns {
		t.Fatalf("what is here is asked for afar: %q", x.far.asked)
	}
}

func (x *trouble) fetch(t testing.TB) {
	t.Helper()
	var some, missing []string
	for range x.Intn(5) {
		id := nth(x.Intn(10)).Id
		if some = append(some, id); !x.own.Has(id) && !x.near.Has(id) && !slices.Contains(missing, id) {
			missing = append(missing, id)
		}
	}
	x.far.asked = nil
	want(t, "Fetch", x.Fetch(some...), api.OK)
	switch {
	case len(missing) == 0:
		x.wantAsked(t)
	default:
		x.wantAsked(t, x.far.words(missing))
	}
}

// P11.5: Get answers bytes that have the id, or an error, whatever the disks do; near has never more than its budget; what is here is not asked for afar.
func TestWhateverTheDisksDo(t *testing.T) {
	for seed := range int64(400) {
		x := newTrouble(t, seed, seed%2 == 0)
		for range 60 {
			x.harm([]*disk.Disk{x.ownDisk, x.nearDisk, x.nearDisk}[x.Intn(3)])
			if x.Intn(3) > 0 {
				x.get(t)
			} else {
				x.fetch(t)
			}
			if n := x.near.Bytes(); n > x.budget {
				t.Fatalf("near has %d bytes, of a budget of %d", n, x.budget)
			}
			for _, id := range x.Memory() {
				if !slices.ContainsFunc(x.far.has, func(o api.Object) bool { return o.Id == id }) {
					t.Fatalf("memory has %x", id)
				}
			}
		}
		if t.Failed() {
			t.Fatalf("the seed %d", seed)
		}
	}
}
