package table

import (
	"maps"
	"slices"
	"strings"

	"tussock/api"
)

// What a pair weighs beside its key and its value.
const bareWeight = 16

// rows are a table's pairs, by their keys.
type rows struct {
	pairs  map[string]api.Pair
	weight int // of all together
}

func newRows() rows { return rows{pairs: map[string]api.Pair{}} }

// with are other ones: these, with the puts done.
func (r rows) with(puts ...api.Put) rows {
	next := rows{maps.Clone(r.pairs), r.weight}
	next.do(puts...)
	return next
}

// do does puts, in order.
func (r *rows) do(puts ...api.Put) {
	for _, p := range puts {
		r.take(p.Key)
		if !p.Gone {
			r.lay(p.Key, p.Val)
		}
	}
}

// lay lays a pair under a key that has none. Both texts are copied: as pieces of a greater one they would keep all of it.
func (r *rows) lay(key, val string) {
	p := api.Pair{Key: strings.Clone(key), Val: strings.Clone(val)}
	r.pairs[p.Key] = p
	r.weight += weigh(p)
}

func (r *rows) take(key string) {
	if p, has := r.pairs[key]; has {
		r.weight -= weigh(p)
		delete(r.pairs, key)
	}
}

func weigh(p api.Pair) int { return bareWeight + len(p.Key) + len(p.Val) }

// fit tells whether a table may have them.
func (r rows) fit() bool { return len(r.pairs) <= api.MaxRows && r.weight <= api.MaxTable }

// each tells of the pairs whose keys begin so, by rising keys.
func (r rows) each(prefix string, tell func(p api.Pair)) {
	for _, key := range slices.Sorted(maps.Keys(r.pairs)) {
		if strings.HasPrefix(key, prefix) {
			tell(r.pairs[key])
		}
	}
}

// puts are those that lay all pairs, by rising keys.
func (r rows) puts() []api.Put {
	var all []api.Put
	r.each("", func(p api.Pair) { all = append(all, api.Put{Key: p.Key, Val: p.Val}) })
	return all
}
