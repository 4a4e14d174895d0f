package history

// waiting are commits as container/heap holds them, the latest one ahead of all others.
type waiting []commit

// Len is how many there are.
func (w waiting) Len() int { return len(w) }

// Less tells whether one is to be taken ahead of another one.
func (w waiting) Less(i, j int) bool { return byTime(w[i], w[j]) > 0 }

// Swap puts each in the other one's place.
func (w waiting) Swap(i, j int) { w[i], w[j] = w[j], w[i] }

// Push puts one behind all others.
func (w *waiting) Push(x any) { *w = append(*w, x.(commit)) }

// Pop takes the one behind all others.
func (w *waiting) Pop() any {
	last := len(*w) - 1
	c := (*w)[last]
	*w = (*w)[:last]
	return c
}
