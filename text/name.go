package text

import (
	"strings"

	"atrium/api"
)

// The bytes beside letters and digits: of tokens, and of plain ones.
const (
	tokenMarks = "!#$%&'*+-.^_`|~"
	plainMarks = "-._~"
)

// mostDigits is how many digits a number may have: as many as always fit into an int.
const mostDigits = 18

// Name tells whether a text may be a name.
func Name(s string) bool {
	if len(s) < 1 || len(s) > api.MaxUser {
		return false
	}
	for i, r := range s {
		if isWrong(r, s[i:]) || !inName(r) {
			return false
		}
	}
	return true
}

// inName tells whether a rune may stand in a name: none that steers, ends a line, or is a mark of the byte order.
func inName(r rune) bool {
	switch {
	case r < 0x20, r >= 0x7F && r <= 0x9F:
		return false
	case r == 0x2028, r == 0x2029, r == 0xFEFF:
		return false
	}
	return true
}

// Token tells whether a text is a token.
func Token(s string) bool {
	for i := range len(s) {
		if !isLetter(s[i]) && !isDigit(s[i]) && strings.IndexByte(tokenMarks, s[i]) < 0 {
			return false
		}
	}
	return s != ""
}

func isLetter(b byte) bool {
	return b >= 'a' && b <= 'z' || isGreat(b)
}

func isGreat(b byte) bool {
	return b >= 'A' && b <= 'Z'
}

func isDigit(b byte) bool {
	return b >= '0' && b <= '9'
}

// Lower is a text in small letters; what is no letter of ASCII stays, also where it is no rune.
func Lower(s string) string {
	out := []byte(s)
	for i, b := range out {
		if isGreat(b) {
			out[i] = b - 'A' + 'a'
		}
	}
	return string(out)
}

// Trim is a text without blanks and tabs around it.
func Trim(s string) string {
	return strings.Trim(s, " \t")
}

// Digits is the number that digits say.
func Digits(s string, most int) (int, api.Errno) {
	if len(s) < 1 || len(s) > mostDigits || len(s) > 1 && s[0] == '0' {
		return 0, api.ErrText
	}
	n := 0
	for i := range len(s) {
		if !isDigit(s[i]) {
			return 0, api.ErrText
		}
		n = 10*n + int(s[i]-'0')
	}
	if n > most {
		return 0, api.ErrLong
	}
	return n, api.OK
}
