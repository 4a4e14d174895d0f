package object_test

import (
	"math"
	"strings"
	"testing"

	"tussock/api"
	"tussock/object"
)

// wantEntry asks that an entry is written as the model writes it, and read again as it was.
func wantEntry(t *testing.T, x api.Entry) {
	t.Helper()
	val, e := object.Entry(x)
	if want := plainValue(x); e != api.OK || val != want {
		t.Errorf("Entry(%v): %d, % X; want % X", x, e, val, want)
	}
	if y, e := object.TakeEntry(x.Name, plainValue(x)); e != api.OK || y != x {
		t.Errorf("TakeEntry of %v: %d, %v", x, e, y)
	}
}

func wantNoEntry(t *testing.T, x api.Entry) {
	t.Helper()
	if val, e := object.Entry(x); e != api.ErrObjectForm || val != "" {
		t.Errorf("Entry(%v): %d, % X; want ErrObjectForm", x, e, val)
	}
	if _, ok := plainEntry(x.Name, plainValue(x)); !ok {
		wantNoValue(t, x.Name, plainValue(x))
	}
}

func wantNoValue(t *testing.T, name, val string) {
	t.Helper()
	if y, e := object.TakeEntry(name, val); e != api.ErrObjectByte || y != (api.Entry{}) {
		t.Errorf("TakeEntry(%q, % X): %d, %v; want ErrObjectByte", head(name), head(val), e, y)
	}
}

// P8.3: what an entry's value is: its Kind, its Id, its Size, without its Name.
func TestEntryWrittenOut(t *testing.T) {
	for want, x := range map[string]api.Entry{
		"\x02" + id('a') + "\x06":         {Name: "a", Kind: api.KFile, Id: id('a'), Size: 3},
		"\x02" + id('a') + "\x00":         {Name: "other", Kind: api.KFile, Id: id('a')},
		"\x04" + id('b') + "\x80\x01":     {Name: "a", Kind: api.KDir, Id: id('b'), Size: 64},
		"\x02" + id('a') + "\x80\x80\x20": {Name: "a", Kind: api.KFile, Id: id('a'), Size: 262144},
	} {
		if val, e := object.Entry(x); e != api.OK || val != want {
			t.Errorf("%v: %d, % X; want % X", x, e, val, want)
		}
		wantEntry(t, x)
	}
}

// P8.3: each Kind, and none, at the edges of their Sizes.
func TestEntryKindsAndSizes(t *testing.T) {
	kinds := []int{math.MinInt, -3, -2, -1, 0, 1, 2, 3, 4, 64, 65, math.MaxInt}
	sizes := []int64{math.MinInt64, -2, -1, 0, 1, 2, 4095, 4096, 4097, 262143, 262144, 262145, 1 << 32, math.MaxInt64}
	rights := 0
	for _, kind := range kinds {
		for _, size := range sizes {
			x := api.Entry{Name: "n", Kind: kind, Id: id(5), Size: size}
			if entryRight(x) {
				rights++
				wantEntry(t, x)
			} else {
				wantNoEntry(t, x)
			}
		}
	}
	if rights != 12 {
		t.Errorf("%d are right", rights)
	}
}

// P8.3: names and texts that are none; one may be read under any name.
func TestEntryNames(t *testing.T) {
	for _, name := range []string{"a", sized(64), "...", ".a", "a.", "..a", " ", "\xFF", "\x01", "é", "a\\b", "\n"} {
		wantEntry(t, api.Entry{Name: name, Kind: api.KFile, Id: id(5), Size: 9})
		wantEntry(t, api.Entry{Name: name, Kind: api.KDir, Id: id(5), Size: 9})
	}
	for _, name := range []string{"", ".", "..", "/", "a/b", "/a", "a/", "\x00", "a\x00b", sized(65), sized(9999)} {
		wantNoEntry(t, api.Entry{Name: name, Kind: api.KFile, Id: id(5), Size: 9})
		wantNoEntry(t, api.Entry{Name: name, Kind: api.KDir, Id: id(5), Size: 9})
	}
}

// P8.3: ids of all sizes.
func TestEntryIds(t *testing.T) {
	for _, n := range []int{0, 1, 31, 33, 64} {
		wantNoEntry(t, api.Entry{Name: "a", Kind: api.KFile, Id: sized(n), Size: 9})
		wantNoEntry(t, api.Entry{Name: "a", Kind: api.KDir, Id: sized(n), Size: 9})
	}
	wantNoEntry(t, api.Entry{})
}

// P8.3: values cut short, longer, with each byte changed, with numbers in another form; empty ones.
func TestEntryBytes(t *testing.T) {
	for _, x := range []api.Entry{
		{Name: "a", Kind: api.KFile, Id: id(5), Size: 262144}, {Name: "a", Kind: api.KFile, Id: id(5)},
		{Name: "a", Kind: api.KDir, Id: id(5), Size: 1}, {Name: "a", Kind: api.KDir, Id: id(5), Size: 4096},
	} {
		val := plainValue(x)
		for cut := range val {
			wantNoValue(t, "a", val[:cut])
		}
		for c := range 256 {
			wantNoValue(t, "a", val+string([]byte{byte(c)}))
			for i := range val {
				checkValue(t, x, val[:i]+string([]byte{byte(c)})+val[i+1:])
			}
		}
		for _, form := range longer(int64(x.Kind)) {
			wantNoValue(t, "a", form+val[1:])
		}
	}
	for _, form := range longer(1) {
		wantNoValue(t, "a", "\x02"+id(5)+form)
		wantNoValue(t, "a", "\x04"+id(5)+form)
	}
	wantNoValue(t, "a", strings.Repeat("\x02", 1<<20))
}

// checkValue asks for a value that may be x's, another entry's or nobody's.
func checkValue(t *testing.T, x api.Entry, val string) {
	t.Helper()
	want, ok := plainEntry(x.Name, val)
	if !ok {
		wantNoValue(t, x.Name, val)
		return
	}
	if y, e := object.TakeEntry(x.Name, val); e != api.OK || y != want {
		t.Errorf("TakeEntry(% X): %d, %v; want %v", val, e, y, want)
	}
}
