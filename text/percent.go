package text

import (
	"strings"

	"atrium/api"
)

// hexDigits are written; small ones are read, too.
const hexDigits = "0123456789ABCDEF"

// Escape is a text in plain bytes and percents.
func Escape(s string) string {
	out := make([]byte, 0, len(s))
	for i := range len(s) {
		b := s[i]
		if isPlain(b) {
			out = append(out, b)
		} else {
			out = append(out, '%', hexDigits[b>>4], hexDigits[b&15])
		}
	}
	return string(out)
}

func isPlain(b byte) bool {
	return isLetter(b) || isDigit(b) || strings.IndexByte(plainMarks, b) >= 0
}

// Unescape is the text that stands behind percents.
func Unescape(s string) (string, api.Errno) {
	out := make([]byte, 0, len(s))
	for i := 0; i < len(s); i++ {
		if s[i] != '%' {
			out = append(out, s[i])
			continue
		}
		if len(s)-i < 3 {
			return "", api.ErrText
		}
		high, low := hexDigit(s[i+1]), hexDigit(s[i+2])
		if high < 0 || low < 0 {
			return "", api.ErrText
		}
		out = append(out, byte(high<<4|low))
		i += 2
	}
	return string(out), api.OK
}

// hexDigit is what a digit says, small or great; -1 of any other byte.
func hexDigit(b byte) int {
	switch {
	case isDigit(b):
		return int(b - '0')
	case b >= 'A' && b <= 'F':
		return int(b-'A') + 10
	case b >= 'a' && b <= 'f':
		return int(b-'a') + 10
	}
	return -1
}
