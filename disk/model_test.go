package disk_test

import (
	"maps"
	"math/rand"
	"slices"
	"strings"
	"testing"

	"tussock/api"
	"tussock/disk"
)

// What became of a model's act.
const (
	isLoose = iota
	isSure
	isUndone
)

// deed is an act of the model: bytes of a file, or, of the directory, a name that a file gets and one that goes.
type deed struct {
	file  int
	bytes []byte
	gets  string
	goes  string
	state int
}

// model keeps all that was ever done, and works every answer out of that.
type model struct {
	room, ops, cut int
	fails          []int
	deeds          []deed
	files          int
}

// at tells what there is, if just these deeds were done.
func (m *model) at(done func(i int, x deed) bool) map[string]int {
	names := map[string]int{}
	for i, x := range m.deeds {
		if x.bytes != nil || !done(i, x) {
			continue
		}
		delete(names, x.goes)
		if x.gets != "" {
			names[x.gets] = x.file
		}
	}
	return names
}

func (m *model) bytes(file int, done func(i int, x deed) bool) []byte {
	var b []byte
	for i, x := range m.deeds {
		if x.bytes != nil && x.file == file && done(i, x) {
			b = append(b, x.bytes...)
		}
	}
	return b
}

func notUndone(_ int, x deed) bool { return x.state != isUndone }

func (m *model) names() map[string]int { return m.at(notUndone) }

func (m *model) used() int {
	n := 0
	for _, f := range m.names() {
		n += len(m.bytes(f, notUndone))
	}
	return n
}

func (m *model) loose() int {
	n := 0
	for _, x := range m.deeds {
		if x.state == isLoose {
			n++
		}
	}
	return n
}

// settle gives all loose deeds of a file, or of the directory (-1), another state.
func (m *model) settle(file, state int) {
	for i, x := range m.deeds {
		if x.state == isLoose && (file < 0 && x.bytes == nil || x.bytes != nil && x.file == file) {
			m.deeds[i].state = state
		}
	}
}

// call is an operation: o is one of "append read readat sync syncdir rename remove".
type call struct {
	o        string
	name, to string
	data     []byte
	at, n    int
}

func right(name string) bool {
	return name != "" && len(name) <= 80 && strings.IndexFunc(name, func(r rune) bool { return r < '!' || r > '~' }) < 0
}

// hinder answers what stands in an operation's way, but a failure.
func (m *model) hinder(c call) api.Errno {
	names := m.names()
	f, here := names[c.name]
	size := len(m.bytes(f, notUndone))
	if c.o != "syncdir" && (!right(c.name) || c.o == "rename" && !right(c.to)) {
		return api.ErrDiskName
	}
	if c.o != "syncdir" && c.o != "append" && !here {
		return api.ErrDiskNone
	}
	if c.o == "append" && len(c.data) > 0 && m.used()+len(c.data) > m.room {
		return api.ErrDiskFull
	}
	if c.o == "readat" && (c.at < 0 || c.n < 0 || c.at+c.n > size) {
		return api.ErrArg
	}
	return api.OK
}

func (m *model) do(c call) ([]byte, api.Errno) {
	if m.cut >= 0 && m.cut <= m.ops {
		return nil, api.ErrDiskOff
	}
	fails := slices.Contains(m.fails, m.ops)
	m.ops++
	if e := m.hinder(c); e != api.OK {
		return nil, e
	}
	f, here := m.names()[c.name]
	if fails {
		if c.o == "sync" {
			m.settle(f, isUndone)
		}
		if c.o == "syncdir" {
			m.settle(-1, isUndone)
		}
		return nil, api.ErrDiskIO
	}
	switch c.o {
	case "append":
		if !here {
			f = m.files
			m.files++
			m.deeds = append(m.deeds, deed{file: f, gets: c.name})
		}
		if len(c.data) > 0 {
			m.deeds = append(m.deeds, deed{file: f, bytes: slices.Clone(c.data)})
		}
	case "read":
		return m.bytes(f, notUndone), api.OK
	case "readat":
		return m.bytes(f, notUndone)[c.at : c.at+c.n], api.OK
	case "sync":
		m.settle(f, isSure)
	case "syncdir":
		m.settle(-1, isSure)
	case "rename":
		if c.name != c.to {
			m.deeds = append(m.deeds, deed{file: f, gets: c.to, goes: c.name})
		}
	case "remove":
		m.deeds = append(m.deeds, deed{file: f, goes: c.name})
	}
	return nil, api.OK
}

func (m *model) turn(name string, at int, by byte) api.Errno {
	f, here := m.names()[name]
	if !here || at < 0 {
		return api.ErrArg
	}
	for i, x := range m.deeds {
		if x.bytes == nil || x.file != f || x.state == isUndone {
			continue
		}
		if at < len(x.bytes) {
			m.deeds[i].bytes[at] ^= by
			return api.OK
		}
		at -= len(x.bytes)
	}
	return api.ErrArg
}

func (m *model) crash(keep, torn int) *model {
	x := &model{room: m.room, cut: -1, files: m.files}
	loose := 0
	for _, it := range m.deeds {
		if it.state == isUndone {
			continue
		}
		if it.state == isLoose {
			loose++
			if loose > keep+1 && keep >= 0 || loose > 1 && keep < 0 {
				continue
			}
			if loose == max(keep, 0)+1 { // the next one
				if it.bytes == nil || torn <= 0 {
					continue
				}
				it.bytes = it.bytes[:min(torn, len(it.bytes))]
			}
		}
		it.bytes = slices.Clone(it.bytes)
		it.state = isSure
		x.deeds = append(x.deeds, it)
	}
	return x
}

// pair is a disk, and the model that does the same.
type pair struct {
	t *testing.T
	d *disk.Disk
	m *model
}

func newPair(t *testing.T, room int) pair {
	return pair{t, newDisk(t, room), &model{room: room, cut: -1}}
}

func (p *pair) do(c call) ([]byte, api.Errno) {
	var b []byte
	var e api.Errno
	switch c.o {
	case "append":
		e = p.d.Append(c.name, c.data)
	case "read":
		b, e = p.d.Read(c.name)
	case "readat":
		b, e = p.d.ReadAt(c.name, c.at, c.n)
	case "sync":
		e = p.d.Sync(c.name)
	case "syncdir":
		e = p.d.SyncDir()
	case "rename":
		e = p.d.Rename(c.name, c.to)
	case "remove":
		e = p.d.Remove(c.name)
	}
	if mb, me := p.m.do(c); string(mb) != string(b) || me != e {
		p.t.Fatalf("%+v: %q, %d; want %q, %d", c, b, e, mb, me)
	}
	return b, e
}

// same holds all that can be looked at against the model.
func (p *pair) same() {
	p.t.Helper()
	names := p.m.names()
	if got, w := p.d.Names(), slices.Sorted(maps.Keys(names)); !slices.Equal(got, w) {
		p.t.Fatalf("Names: %q; want %q", got, w)
	}
	for name, f := range names {
		if got, w := p.d.Size(name), len(p.m.bytes(f, notUndone)); got != w {
			p.t.Fatalf("Size(%s): %d; want %d", name, got, w)
		}
	}
	if p.d.Ops() != p.m.ops || p.d.Loose() != p.m.loose() {
		p.t.Fatalf("Ops, Loose: %d, %d; want %d, %d", p.d.Ops(), p.d.Loose(), p.m.ops, p.m.loose())
	}
}

// sameCrash holds a crash against the model's, with its bytes.
func (p *pair) sameCrash(keep, torn int) {
	p.t.Helper()
	x := pair{p.t, p.d.Crash(keep, torn), p.m.crash(keep, torn)}
	x.same()
	for name := range x.m.names() {
		x.do(call{o: "read", name: name})
	}
	x.do(call{o: "append", name: "room", data: make([]byte, max(0, x.m.room-x.m.used()))})
	x.do(call{o: "append", name: "room", data: []byte("!")})
}

// step does what the next bytes of a script say.
func (p *pair) step(next func() int) {
	names := []string{"a", "b", "c", "d", "a", "b", "", "no name"}
	name := func() string { return names[next()%len(names)] }
	switch what := next() % 24; {
	case what < 6:
		p.do(call{o: "append", name: name(), data: []byte("0123456789")[next()%5 : 5+next()%5]})
	case what < 7:
		p.do(call{o: "append", name: name()})
	case what < 9:
		p.do(call{o: "read", name: name()})
	case what < 11:
		p.do(call{o: "readat", name: name(), at: next()%8 - 1, n: next()%8 - 1})
	case what < 13:
		p.do(call{o: "sync", name: name()})
	case what < 14:
		p.do(call{o: "syncdir"})
	case what < 16:
		p.do(call{o: "rename", name: name(), to: name()})
	case what < 17:
		p.do(call{o: "remove", name: name()})
	default:
		p.script(what, name, next)
	}
}

// script does what is no operation.
func (p *pair) script(what int, name func() string, next func() int) {
	switch what {
	case 17:
		op, other := p.m.ops+next()%6-2, p.m.ops+next()%6-2
		p.d.FailAt(op, other)
		p.m.fails = append(p.m.fails, op, other)
	case 18:
		op := p.m.ops + next()%6 - 2
		if next()%2 == 0 {
			op = -1
		}
		p.d.CutAt(op)
		p.m.cut = op
	case 19:
		room := next()%40 - 2
		p.d.SetRoom(room)
		p.m.room = max(room, 0)
	case 20, 21:
		n, at, by := name(), next()%8-1, byte(next())
		if e, w := p.d.Turn(n, at, by), p.m.turn(n, at, by); e != w {
			p.t.Fatalf("Turn(%s, %d): %d; want %d", n, at, e, w)
		}
	case 22:
		p.sameCrash(next()%6-1, next()%6-1)
	case 23:
		if next()%4 == 0 {
			keep, torn := next()%6-1, next()%6-1
			p.d, p.m = p.d.Crash(keep, torn), p.m.crash(keep, torn)
		}
	}
}

// P3.2 to P3.6: whatever is done, each answer is the model's, and so is what each crash leaves.
func TestAsTheModel(t *testing.T) {
	for seed := range int64(400) {
		r := rand.New(rand.NewSource(seed))
		p := newPair(t, 8+r.Intn(40))
		for range 60 {
			p.step(func() int { return r.Intn(1 << 20) })
			p.same()
		}
		for keep := -1; keep <= p.m.loose()+1; keep++ {
			for torn := -1; torn <= 10; torn++ {
				p.sameCrash(keep, torn)
			}
		}
	}
}

// P3.2 to P3.6: likewise, by scripts that a fuzzer makes up.
func FuzzAsTheModel(f *testing.F) {
	f.Add([]byte{0, 0, 0, 4, 11, 0, 0, 0, 1, 2, 13, 14, 0, 1, 16, 1})
	f.Add([]byte{0, 0, 0, 4, 13, 17, 2, 3, 0, 0, 1, 1, 11, 0, 13, 22, 1, 1})
	f.Fuzz(func(t *testing.T, script []byte) {
		if len(script) > 400 {
			return
		}
		p := newPair(t, 30)
		next := func() int {
			if len(script) == 0 {
				return 0
			}
			b := script[0]
			script = script[1:]
			return int(b)
		}
		for len(script) > 0 {
			p.step(next)
			p.same()
		}
		for keep := -1; keep <= p.m.loose()+1; keep++ {
			p.sameCrash(keep, 0)
			p.sameCrash(keep, 2)
		}
	})
}
