package lru_test

import (
	"math/rand"
	"slices"
	"strings"
	"testing"

	"tussock/api"
	"tussock/lru"
)

// plain is a cache as the chapter's words say it: a list that is gone through and weighed anew each time.
type plain struct {
	budget int
	pairs  []pair // the one used last is the last one
}

type pair struct{ key, val string }

func (p *plain) place(key string) int {
	return slices.IndexFunc(p.pairs, func(x pair) bool { return x.key == key })
}

func (p *plain) get(key string) (string, bool) {
	i := p.place(key)
	if i < 0 {
		return "", false
	}
	x := p.pairs[i]
	p.pairs = append(slices.Delete(p.pairs, i, i+1), x)
	return x.val, true
}

func (p *plain) put(key, val string) ([]string, api.Errno) {
	if len(key+val) > p.budget {
		return nil, api.ErrLruBig
	}
	p.drop(key)
	p.pairs = append(p.pairs, pair{key, val})
	var gone []string
	for p.bytes() > p.budget {
		gone = append(gone, p.pairs[0].key)
		p.pairs = slices.Delete(p.pairs, 0, 1)
	}
	return gone, api.OK
}

func (p *plain) drop(keys ...string) int {
	had := len(p.pairs)
	p.pairs = slices.DeleteFunc(p.pairs, func(x pair) bool { return slices.Contains(keys, x.key) })
	return had - len(p.pairs)
}

func (p *plain) keys() []string {
	var out []string
	for _, x := range slices.Backward(p.pairs) {
		out = append(out, x.key)
	}
	return out
}

func (p *plain) bytes() int {
	n := 0
	for _, x := range p.pairs {
		n += len(x.key + x.val)
	}
	return n
}

// both is a cache and its model, which get the same calls and must answer alike.
type both struct {
	*lru.Cache
	model plain
}

func newBoth(budget int) *both {
	return &both{lru.New(budget), plain{budget: max(budget, 0)}}
}

func (b *both) get(t *testing.T, key string) {
	t.Helper()
	want, has := b.model.get(key)
	if has {
		wantGet(t, b.Cache, key, want)
	} else {
		wantNone(t, b.Cache, key)
	}
	wantAll(t, b.Cache, b.model.bytes(), b.model.keys()...)
}

func (b *both) put(t *testing.T, key, val string) {
	t.Helper()
	gone, e := b.model.put(key, val)
	if e == api.OK {
		wantPut(t, b.Cache, key, val, gone...)
	} else {
		wantBig(t, b.Cache, key, val)
	}
	wantAll(t, b.Cache, b.model.bytes(), b.model.keys()...)
}

func (b *both) drop(t *testing.T, keys ...string) {
	t.Helper()
	wantDrop(t, b.Cache, b.model.drop(keys...), keys...)
	wantAll(t, b.Cache, b.model.bytes(), b.model.keys()...)
}

// filled is a cache into which the pairs were put, each of a key and a text; none had to go.
func filled(t *testing.T, budget int, pairs ...string) *lru.Cache {
	t.Helper()
	c := lru.New(budget)
	for i := 0; i < len(pairs); i += 2 {
		wantPut(t, c, pairs[i], pairs[i+1])
	}
	return c
}

func wantGet(t *testing.T, c *lru.Cache, key, want string) {
	t.Helper()
	if got, has := c.Get(key); got != want || !has {
		t.Errorf("Get(%q): %q, %t; want %q", head(key), head(got), has, head(want))
	}
}

func wantNone(t *testing.T, c *lru.Cache, key string) {
	t.Helper()
	if got, has := c.Get(key); got != "" || has {
		t.Errorf("Get(%q): %q, %t; want none", head(key), head(got), has)
	}
}

func wantPut(t *testing.T, c *lru.Cache, key, val string, gone ...string) {
	t.Helper()
	if got, e := c.Put(key, val); e != api.OK || !slices.Equal(got, gone) {
		t.Errorf("Put(%q, %q): %q, %d; want %q", head(key), head(val), got, e, gone)
	}
}

func wantBig(t *testing.T, c *lru.Cache, key, val string) {
	t.Helper()
	if got, e := c.Put(key, val); e != api.ErrLruBig || len(got) != 0 {
		t.Errorf("Put(%q, %q): %q, %d; want ErrLruBig", head(key), head(val), got, e)
	}
}

func wantDrop(t *testing.T, c *lru.Cache, want int, keys ...string) {
	t.Helper()
	if got := c.Drop(keys...); got != want {
		t.Errorf("Drop(%q): %d; want %d", keys, got, want)
	}
}

// wantAll asks what changes nothing: how many bytes there are, and which keys, the one used last first.
func wantAll(t *testing.T, c *lru.Cache, bytes int, keys ...string) {
	t.Helper()
	if got := c.Keys(); !slices.Equal(got, keys) {
		t.Errorf("Keys: %q; want %q", got, keys)
	}
	if got := c.Bytes(); got != bytes {
		t.Errorf("Bytes: %d; want %d", got, bytes)
	}
}

// drawnKey is one of a few, of 0 to 3 bytes; drawnText has up to most bytes, few of them as a rule.
func drawnKey(r *rand.Rand) string {
	return strings.Repeat(string([]byte{"ab\x00\xff"[r.Intn(4)]}), r.Intn(4))
}

func drawnText(r *rand.Rand, most int) string {
	n := r.Intn(most + 1)
	if r.Intn(4) > 0 {
		n = min(n, r.Intn(4))
	}
	b := make([]byte, n)
	r.Read(b)
	return string(b)
}

func drawnKeys(r *rand.Rand) []string {
	var out []string
	for range r.Intn(5) {
		out = append(out, drawnKey(r))
	}
	return out
}

// head keeps what a failed test tells short.
func head(s string) string {
	return s[:min(len(s), 20)]
}
