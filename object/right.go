package object

import (
	"slices"

	"tussock/api"
	"tussock/path"
)

const (
	leastLevel = 1
	mostTime   = 1 << 62
)

func isId(s string) bool { return len(s) == api.IdSize }

func isKey(s string) bool { return len(s) >= 1 && len(s) <= api.MaxKey }

func isLevel(n int) bool { return n >= leastLevel && n <= api.MaxLevel }

func fanIsRight(f api.Fan) bool {
	return isLevel(f.Level) && len(f.Kids) >= 1 && len(f.Kids) <= api.MaxFan &&
		each(f.Kids, func(p api.Part) bool { return isId(p.Id) }) &&
		sumIsWithin(f.Kids, func(p api.Part) int64 { return p.Size }, api.MaxFile)
}

func leafIsRight(pairs []api.Pair) bool {
	return len(pairs) <= api.MaxNode &&
		each(pairs, func(p api.Pair) bool { return isKey(p.Key) && len(p.Val) <= api.MaxVal }) &&
		keysRise(pairs, func(p api.Pair) string { return p.Key })
}

func branchIsRight(b api.Branch) bool {
	return isLevel(b.Level) && len(b.Kids) >= 1 && len(b.Kids) <= api.MaxNode &&
		each(b.Kids, func(l api.Link) bool { return isKey(l.Last) && isId(l.Id) }) &&
		keysRise(b.Kids, func(l api.Link) string { return l.Last }) &&
		sumIsWithin(b.Kids, func(l api.Link) int64 { return l.Many }, api.MaxPairs)
}

func commitIsRight(c api.Commit) bool {
	return isId(c.Tree) && len(c.Parents) <= api.MaxParents &&
		each(c.Parents, isId) && len(eachOnce(c.Parents)) == len(c.Parents) &&
		len(c.Who) <= api.MaxWho && len(c.Note) <= api.MaxNote &&
		c.Time >= 0 && c.Time <= mostTime
}

func entryIsRight(e api.Entry) bool {
	return path.IsName(e.Name) && isId(e.Id) && sizeIsRight(e.Kind, e.Size)
}

// sizeIsRight tells whether an entry of that kind may have so many bytes, or entries: a directory without any is none.
func sizeIsRight(kind int, size int64) bool {
	switch kind {
	case api.KFile:
		return size >= 0 && size <= api.MaxFile
	case api.KDir:
		return size >= 1 && size <= api.MaxPairs
	}
	return false
}

// each tells whether all of a list are right.
func each[T any](list []T, right func(T) bool) bool {
	for _, x := range list {
		if !right(x) {
			return false
		}
	}
	return true
}

// keysRise tells whether each key stands ahead of the next one's.
func keysRise[T any](list []T, key func(T) string) bool {
	for i := 1; i < len(list); i++ {
		if key(list[i-1]) >= key(list[i]) {
			return false
		}
	}
	return true
}

// sumIsWithin tells whether the numbers are 1 or above, and all together at most most. What is left of that is counted down, as a sum could wrap round.
func sumIsWithin[T any](list []T, number func(T) int64, most int64) bool {
	for _, x := range list {
		n := number(x)
		if n < 1 || n > most {
			return false
		}
		most -= n
	}
	return true
}

// eachOnce leaves out what stood ahead already. The lists are as short as nodes are, so that looking back is quick.
func eachOnce(list []string) []string {
	var once []string
	for _, s := range list {
		if !slices.Contains(once, s) {
			once = append(once, s)
		}
	}
	return once
}
