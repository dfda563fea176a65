package script

import "strings"

// What stands in a quoted text but for bytes as they are.
const (
	mark    = '"'
	escape  = '\\'
	inHex   = 'x'
	digits  = "0123456789abcdef"
	hexSize = len(`\x00`)
)

// Quote is the quoted text of bytes.
func Quote(s string) string {
	var b strings.Builder
	b.WriteByte(mark)
	for i := range len(s) {
		quoteByte(&b, s[i])
	}
	b.WriteByte(mark)
	return b.String()
}

func quoteByte(b *strings.Builder, c byte) {
	switch {
	case c < 32 || c > 126:
		b.WriteByte(escape)
		b.WriteByte(inHex)
		b.WriteByte(digits[c>>4])
		b.WriteByte(digits[c&15])
	case c == mark || c == escape:
		b.WriteByte(escape)
		b.WriteByte(c)
	default:
		b.WriteByte(c)
	}
}

// Unquote is the bytes whose quoted text it is. Bytes have just one: what is read here is right if it is written so again, whatever was passed over.
func Unquote(s string) (string, bool) {
	if len(s) < 2 {
		return "", false
	}
	var b strings.Builder
	for rest := s[1 : len(s)-1]; rest != ""; {
		c, size := unquoteByte(rest)
		b.WriteByte(c)
		rest = rest[size:]
	}
	if Quote(b.String()) != s {
		return "", false
	}
	return b.String(), true
}

// unquoteByte is the byte with which a quoted text goes on, and how many bytes stand for it.
func unquoteByte(s string) (byte, int) {
	if s[0] != escape || len(s) == 1 {
		return s[0], 1
	}
	if s[1] != inHex || len(s) < hexSize {
		return s[1], 2
	}
	high, low := strings.IndexByte(digits, s[2]), strings.IndexByte(digits, s[3])
	return byte(high<<4 | low), hexSize
}
