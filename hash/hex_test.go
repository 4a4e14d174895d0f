package hash_test

import (
	"encoding/hex"
	"math/rand"
	"strings"
	"testing"

	"tussock/hash"
)

func wantBytes(t *testing.T, s, want string) {
	t.Helper()
	if got, ok := hash.Unhex(s); got != want || !ok {
		t.Errorf("Unhex(%q): %q, %v; want %q, true", s, got, ok, want)
	}
}

func wantNoBytes(t *testing.T, s string) {
	t.Helper()
	if got, ok := hash.Unhex(s); got != "" || ok {
		t.Errorf("Unhex(%q): %q, %v; want empty, false", s, got, ok)
	}
}

// P2.2: the chapter's examples.
func TestUnhexExamples(t *testing.T) {
	wantNoBytes(t, "0aFF")
	wantBytes(t, "0a", "\n")
	wantNoBytes(t, "0")
}

// P2.2: digits are small letters, the higher of two first.
func TestHexDigits(t *testing.T) {
	for s, want := range map[string]string{
		"": "", "\x00": "00", "\x01": "01", "\x0F": "0f", "\x10": "10", "\x9A": "9a", "\xA9": "a9", "\xFF": "ff",
		"abc": "616263", "\x00\x00": "0000", "\x01\x23\x45\x67\x89\xAB\xCD\xEF": "0123456789abcdef",
		"é": "c3a9", "a\nb": "610a62",
	} {
		if got := hash.Hex(s); got != want {
			t.Errorf("Hex(%q): %s; want %s", s, got, want)
		}
	}
}

// P2.2: every byte value, alone and beside others; what Hex wrote, Unhex reads.
func TestHexBytes(t *testing.T) {
	const lower = "0123456789abcdef"
	var all []byte
	var wanted string
	for c := range 256 {
		two := string([]byte{lower[c/16], lower[c%16]})
		one := string([]byte{byte(c)})
		if got := hash.Hex(one); got != two {
			t.Errorf("Hex(%02X): %s; want %s", c, got, two)
		}
		wantBytes(t, two, one)
		all = append(all, byte(c))
		wanted += two
	}
	if got := hash.Hex(string(all)); got != wanted {
		t.Errorf("of all bytes: %s", got)
	}
	wantBytes(t, wanted, string(all))
}

// P2.2: texts of many lengths, there and back.
func TestHexThereAndBack(t *testing.T) {
	r := rand.New(rand.NewSource(6))
	for _, size := range []int{0, 1, 2, 3, 31, 32, 33, 64, 255, 256, 1000, 32768, 1 << 20} {
		s := randomText(r, size)
		got := hash.Hex(s)
		if got != hex.EncodeToString([]byte(s)) {
			t.Errorf("of %d bytes", size)
		}
		if back, ok := hash.Unhex(got); back != s || !ok {
			t.Errorf("back, of %d bytes: %d, %v", size, len(back), ok)
		}
	}
}

// P2.2: of all texts of two signs, those are read that Hex writes, each as its own byte.
func TestUnhexAllPairs(t *testing.T) {
	const lower = "0123456789abcdef"
	for c := range 256 {
		for d := range 256 {
			s := string([]byte{byte(c), byte(d)})
			high, low := strings.IndexByte(lower, byte(c)), strings.IndexByte(lower, byte(d))
			if high < 0 || low < 0 {
				wantNoBytes(t, s)
				wantNoBytes(t, "00"+s)
				wantNoBytes(t, s+"00")
				continue
			}
			wantBytes(t, s, string([]byte{byte(high*16 + low)}))
		}
	}
}

// P2.2: the empty text is Hex of no bytes; odd lengths are Hex of none.
func TestUnhexLengths(t *testing.T) {
	wantBytes(t, "", "")
	for size := range 70 {
		s := strings.Repeat("0", size)
		if size%2 == 0 {
			wantBytes(t, s, strings.Repeat("\x00", size/2))
		} else {
			wantNoBytes(t, s)
		}
	}
	for _, s := range []string{"a", "f", "abc", "0a0", "00000", "g", " ", digitsOfAbc[1:]} {
		wantNoBytes(t, s)
	}
}

// P2.2: capital letters, and signs that are no digits, wherever they stand.
func TestUnhexWrongSigns(t *testing.T) {
	wantBytes(t, digitsOfAbc, hash.Sum("abc"))
	for _, c := range []byte("ABCDEFGg/:@`xX \n\t-+_.\x00\x80\xFF") {
		for at := range len(digitsOfAbc) {
			wantNoBytes(t, digitsOfAbc[:at]+string([]byte{c})+digitsOfAbc[at+1:])
		}
	}
	for _, s := range []string{strings.ToUpper(digitsOfAbc), "0x0a", "0a 0b", " 0a", "0a ", "0a\n", "+a", "-1", "aé", "é", "٠٠", "ａａ"} {
		wantNoBytes(t, s)
	}
}

// P2.2, on any text: it is read only if it is Hex of what is read; and each text's digits are read back.
func FuzzUnhex(f *testing.F) {
	for _, s := range []string{"", "0", "0a", "0A", "0aFF", "0g", "00ff"} {
		f.Add(s)
	}
	f.Fuzz(func(t *testing.T, s string) {
		got, ok := hash.Unhex(s)
		want, err := hex.DecodeString(s)
		if right := err == nil && s == strings.ToLower(s); ok != right || ok && got != string(want) || !ok && got != "" {
			t.Fatalf("Unhex(%q): %q, %v", s, got, ok)
		}
		wantBytes(t, hash.Hex(s), s)
	})
}
