package json

import (
	"atrium/api"
	"atrium/text"
)

// The units that are no runes: one of the first half and one of the second half are one rune together.
const (
	firstHigh = 0xD800
	firstLow  = 0xDC00
	lastLow   = 0xDFFF
	pairs     = 0x10000 // the first rune that is a pair
)

// text is the string that comes, as a value.
func (p *parser) text() (any, bool) {
	return p.quoted()
}

// quoted is the string that comes.
func (p *parser) quoted() (string, bool) {
	p.at++
	var out []byte
	for {
		out = append(out, p.plain()...)
		switch p.peek() {
		case '"':
			p.at++
			return string(out), true
		case '\\':
			r, ok := p.escape()
			if !ok {
				return "", false
			}
			out = append(out, string(r)...)
		default:
			return "", p.fail(api.ErrJSON)
		}
	}
}

// plain is the bytes that come up to the first that does not stand for itself.
func (p *parser) plain() string {
	rest := p.s[p.at:]
	for i, r := range rest {
		if r < ' ' || r == '"' || r == '\\' || !isRight(r, rest[i:]) {
			p.at += i
			return rest[:i]
		}
	}
	p.at = len(p.s)
	return rest
}

// isRight tells whether r, with which ranging over s begins, stands there, and not a byte that is no rune's.
func isRight(r rune, s string) bool {
	if r != 0xFFFD {
		return true
	}
	_, size := text.Decode(s)
	return size > 1
}

// escape is the rune of the escape that comes.
func (p *parser) escape() (rune, bool) {
	p.at++
	if p.take('u') {
		return p.coded()
	}
	r, is := escapes(p.peek())
	if !is {
		return 0, p.fail(api.ErrJSON)
	}
	p.at++
	return r, true
}

// escapes is what a byte behind a backslash stands for.
func escapes(b byte) (rune, bool) {
	switch b {
	case '"', '\\', '/':
		return rune(b), true
	case 'b':
		return '\b', true
	case 'f':
		return '\f', true
	case 'n':
		return '\n', true
	case 'r':
		return '\r', true
	case 't':
		return '\t', true
	}
	return 0, false
}

// coded is the rune whose first digit comes: one unit, or a pair of them.
func (p *parser) coded() (rune, bool) {
	high, ok := p.unit(false)
	if !ok || high < firstHigh || high > lastLow {
		return high, ok
	}
	if !p.need('\\') || !p.need('u') {
		return 0, false
	}
	low, ok := p.unit(true)
	if !ok {
		return 0, false
	}
	return pairs + (high-firstHigh)<<10 + (low - firstLow), true
}

// unit is the four digits that come; low: it is the second half of a pair.
func (p *parser) unit(low bool) (rune, bool) {
	unit := rune(0)
	for i := range 4 {
		digit, is := hexDigit(p.peek())
		unit = unit<<4 | digit
		if !is || !mayBegin(unit, i, low) {
			return 0, p.fail(api.ErrJSON)
		}
		p.at++
	}
	return unit, true
}

// mayBegin tells whether a unit's digits up to number last may be these: the second half of a pair begins with DC to DF, and nothing else does.
func mayBegin(digits rune, last int, low bool) bool {
	switch last {
	case 0:
		return !low || digits == firstLow>>12
	case 1:
		return low == (digits >= firstLow>>8 && digits <= lastLow>>8)
	}
	return true
}

func hexDigit(b byte) (rune, bool) {
	switch {
	case isDigit(b):
		return rune(b - '0'), true
	case b >= 'a' && b <= 'f':
		return rune(b-'a') + 10, true
	case b >= 'A' && b <= 'F':
		return rune(b-'A') + 10, true
	}
	return 0, false
}
