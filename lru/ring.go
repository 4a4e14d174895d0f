package lru

// text hangs in a ring between the one that was used next ahead of it and the one that was used next behind it.
type text struct {
	key, val     string
	older, newer *text
}

func (t *text) weight() int { return weigh(t.key, t.val) }

func weigh(key, val string) int { return len(key) + len(val) }

// ring holds texts in the order in which they were used. It is closed, so that one end leads to the other: newer than the one used last is the one used first.
type ring struct {
	last   *text // the one used last; nil, if there is none
	weight int   // that of all texts together
}

// first is the text that was used first, of a ring that has some.
func (r *ring) first() *text { return r.last.newer }

// hang puts a text that hangs nowhere into the ring, as the one used last.
func (r *ring) hang(t *text) {
	t.older, t.newer = t, t
	if r.last != nil {
		t.older, t.newer = r.last, r.last.newer
		t.older.newer, t.newer.older = t, t
	}
	r.last = t
	r.weight += t.weight()
}

// unhang takes a text out of the ring.
func (r *ring) unhang(t *text) {
	t.older.newer, t.newer.older = t.newer, t.older
	switch {
	case t.older == t: // it hung there alone
		r.last = nil
	case t == r.last:
		r.last = t.older
	}
	t.older, t.newer = nil, nil
	r.weight -= t.weight()
}

// use makes a text of the ring the one used last.
func (r *ring) use(t *text) {
	r.unhang(t)
	r.hang(t)
}

// keys are those of all texts, the one used last first.
func (r *ring) keys() []string {
	if r.last == nil {
		return nil
	}
	keys := []string{r.last.key}
	for t := r.last.older; t != r.last; t = t.older {
		keys = append(keys, t.key)
	}
	return keys
}
