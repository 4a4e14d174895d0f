package table

import (
	"tussock/api"
	"tussock/wire"
)

// What may be put at once. All pairs that a table may have could be put at once, too: so the group that lays them anew is read as any other one is.
const (
	mostKey  = 2048
	mostVal  = 4096
	mostPuts = api.MaxRows
	mostText = api.MaxTable // bytes of their keys and values
)

// slack is how many bytes the log may have beside twice what the pairs weigh, ahead of being laid anew: enough that most Commits lay their puts alone, and so few that what a crash leaves of the log laid anew has room within the bounds, too.
const slack = 10000

// How many bytes a log takes for a group, and for a record beside its own, at most.
const (
	groupBytes  = 30
	recordBytes = 10
)

// areRight tells whether puts may be done at once.
func areRight(puts []api.Put) bool {
	if len(puts) > mostPuts {
		return false
	}
	n := 0
	for _, p := range puts {
		if len(p.Key) > mostKey || len(p.Val) > mostVal || p.Gone && p.Val != "" {
			return false
		}
		n += len(p.Key) + len(p.Val)
	}
	return n <= mostText
}

// putGroup makes a record of each put: its key, as a text, and behind it its value, unless it is Gone.
func putGroup(puts []api.Put) []string {
	var group []string
	for _, p := range puts {
		b := wire.PutText(nil, p.Key)
		if !p.Gone {
			b = wire.PutText(b, p.Val)
		}
		group = append(group, string(b))
	}
	return group
}

// mostBytes is how many bytes a group takes in the log at most.
func mostBytes(group []string) int {
	n := groupBytes
	for _, record := range group {
		n += recordBytes + len(record)
	}
	return n
}

// takeGroups does what a log's groups say. False: no table laid them.
func takeGroups(groups [][]string) (rows, bool) {
	has := newRows()
	for i, group := range groups {
		puts, ok := takePuts(group)
		if !ok || !areRight(puts) || !isLaid(puts, i == 0) {
			return rows{}, false
		}
		has.do(puts...)
		if !has.fit() {
			return rows{}, false
		}
	}
	return has, true
}

// isLaid tells whether a table lays these puts: the first group has all pairs that there were, by rising keys, the others have what was put behind that.
func isLaid(puts []api.Put, first bool) bool {
	if !first {
		return len(puts) > 0
	}
	for i, p := range puts {
		if p.Gone || i > 0 && p.Key <= puts[i-1].Key {
			return false
		}
	}
	return true
}

func takePuts(group []string) ([]api.Put, bool) {
	var puts []api.Put
	for _, record := range group {
		p, ok := takePut([]byte(record))
		if !ok {
			return nil, false
		}
		puts = append(puts, p)
	}
	return puts, true
}

func takePut(b []byte) (api.Put, bool) {
	key, next, ok := wire.TakeText(b, 0, mostKey)
	if !ok {
		return api.Put{}, false
	}
	if next == len(b) {
		return api.Put{Key: key, Gone: true}, true
	}
	val, next, ok := wire.TakeText(b, next, mostVal)
	return api.Put{Key: key, Val: val}, ok && next == len(b)
}
