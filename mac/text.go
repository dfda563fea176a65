package mac

import "strings"

const (
	digits  = "0123456789abcdef"
	letters = "ABCDEFGHIJKLMNOPQRSTUVWXYZabcdefghijklmnopqrstuvwxyz0123456789-_"
)

// Hex is bytes in digits.
func Hex(s string) string {
	out := make([]byte, 0, 2*len(s))
	for i := range len(s) {
		out = append(out, digits[s[i]>>4], digits[s[i]&15])
	}
	return string(out)
}

// Unhex is the bytes of digits.
func Unhex(s string) (string, bool) {
	if len(s)%2 != 0 {
		return "", false
	}
	out := make([]byte, 0, len(s)/2)
	for i := 0; i < len(s); i += 2 {
		high := strings.IndexByte(digits, s[i])
		low := strings.IndexByte(digits, s[i+1])
		if high < 0 || low < 0 {
			return "", false
		}
		out = append(out, byte(high<<4|low))
	}
	return string(out), true
}

// Base64 is bytes in letters.
func Base64(s string) string {
	out := make([]byte, 0, (4*len(s)+2)/3)
	rest, n := uint32(0), 0 // the last n bits of rest are not told yet
	for i := range len(s) {
		rest, n = rest<<8|uint32(s[i]), n+8
		for n >= 6 {
			n -= 6
			out = append(out, letters[rest>>n&63])
		}
	}
	if n > 0 {
		out = append(out, letters[rest<<(6-n)&63])
	}
	return string(out)
}

// Unbase64 is the bytes of letters.
func Unbase64(s string) (string, bool) {
	out := make([]byte, 0, len(s)*3/4)
	rest, n := uint32(0), 0 // the last n bits of rest are no byte yet
	for i := range len(s) {
		place := strings.IndexByte(letters, s[i])
		if place < 0 {
			return "", false
		}
		rest, n = rest<<6|uint32(place), n+6
		if n >= 8 {
			n -= 8
			out = append(out, byte(rest>>n))
		}
	}
	// Six bits that are left are a letter too many; others are behind a last byte, and 0 there.
	if n == 6 || rest&(1<<n-1) != 0 {
		return "", false
	}
	return string(out), true
}
