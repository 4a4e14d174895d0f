package hash

const digits = "0123456789abcdef"

// Hex writes bytes as digits, Unhex reads them.
func Hex(s string) string {
	b := make([]byte, 0, 2*len(s))
	for i := range len(s) {
		b = append(b, digits[s[i]>>4], digits[s[i]&15])
	}
	return string(b)
}

func Unhex(s string) (string, bool) {
	if len(s)%2 != 0 {
		return "", false
	}
	b := make([]byte, 0, len(s)/2)
	for i := 0; i < len(s); i += 2 {
		high, ok := digitOf(s[i])
		low, fine := digitOf(s[i+1])
		if !ok || !fine {
			return "", false
		}
		b = append(b, high<<4|low)
	}
	return string(b), true
}

// digitOf takes no capital letters, so that no two texts are read as the same bytes.
func digitOf(c byte) (byte, bool) {
	switch {
	case '0' <= c && c <= '9':
		return c - '0', true
	case 'a' <= c && c <= 'f':
		return c - 'a' + 10, true
	}
	return 0, false
}
