package json

import (
	"strings"

	"atrium/api"
)

// The words that are values.
const (
	wordNull  = "null"
	wordTrue  = "true"
	wordFalse = "false"
)

// blanks may stand around each part.
const blanks = " \t\n\r"

// parser goes through a text byte by byte. Behind a fault it stands at the byte that may not be there.
type parser struct {
	s     string
	at    int
	fault api.Errno
}

// Parse is the value of a text; the place at fault.
func Parse(s string) (any, api.Errno, int) {
	if len(s) > api.MaxJSON {
		return nil, api.ErrLong, api.MaxJSON
	}
	p := &parser{s: s}
	v, ok := p.value(0)
	if !ok || !p.end() {
		return nil, p.fault, p.at
	}
	return v, api.OK, 0
}

// fail is false, and the fault that is told.
func (p *parser) fail(e api.Errno) bool {
	p.fault = e
	return false
}

// peek is the byte that comes; 0, which may stand nowhere, if there is none any more.
func (p *parser) peek() byte {
	if p.at == len(p.s) {
		return 0
	}
	return p.s[p.at]
}

// take passes over a byte, if it comes.
func (p *parser) take(b byte) bool {
	if p.peek() != b {
		return false
	}
	p.at++
	return true
}

// need passes over a byte that must come.
func (p *parser) need(b byte) bool {
	return p.take(b) || p.fail(api.ErrJSON)
}

func (p *parser) skip() {
	for p.at < len(p.s) && strings.IndexByte(blanks, p.s[p.at]) >= 0 {
		p.at++
	}
}

// end is that nothing but blanks comes.
func (p *parser) end() bool {
	p.skip()
	return p.at == len(p.s) || p.fail(api.ErrJSON)
}

// value is the value that comes, with so many arrays and objects around it.
func (p *parser) value(depth int) (any, bool) {
	p.skip()
	switch b := p.peek(); {
	case b == '[' || b == '{':
		return p.nested(b, depth)
	case b == '"':
		return p.text()
	case b == '-' || isDigit(b):
		return p.number()
	case b == wordNull[0]:
		return nil, p.word(wordNull)
	case b == wordTrue[0]:
		return true, p.word(wordTrue)
	case b == wordFalse[0]:
		return false, p.word(wordFalse)
	}
	return nil, p.fail(api.ErrJSON)
}

func (p *parser) word(w string) bool {
	for i := range len(w) {
		if !p.need(w[i]) {
			return false
		}
	}
	return true
}

func isDigit(b byte) bool {
	return b >= '0' && b <= '9'
}

// number is the integer that comes. Behind a nought it ends, so that a digit there is at fault as any other byte behind a value.
func (p *parser) number() (any, bool) {
	below := p.take('-')
	if !isDigit(p.peek()) || below && p.peek() == '0' {
		return nil, p.fail(api.ErrJSON)
	}
	if p.take('0') {
		return 0, true
	}
	n := 0
	for ; isDigit(p.peek()); p.at++ {
		digit := int(p.peek() - '0')
		if n > (api.MaxInt-digit)/10 {
			return nil, p.fail(api.ErrJSON)
		}
		n = 10*n + digit
	}
	if below {
		n = -n
	}
	return n, true
}

// nested is the array or object that comes.
func (p *parser) nested(open byte, depth int) (any, bool) {
	if depth == api.MaxDepth {
		return nil, p.fail(api.ErrDeep)
	}
	p.at++
	if open == '[' {
		return p.array(depth + 1)
	}
	return p.object(depth + 1)
}

// array is the array whose bracket has been passed over.
func (p *parser) array(depth int) (any, bool) {
	l := []any{}
	p.skip()
	if p.take(']') {
		return l, true
	}
	for {
		v, ok := p.value(depth)
		if !ok {
			return nil, false
		}
		l = append(l, v)
		p.skip()
		if p.take(']') {
			return l, true
		}
		if !p.need(',') {
			return nil, false
		}
	}
}

// object is the object whose bracket has been passed over.
func (p *parser) object(depth int) (any, bool) {
	m := map[string]any{}
	p.skip()
	if p.take('}') {
		return m, true
	}
	for {
		if !p.field(m, depth) {
			return nil, false
		}
		p.skip()
		if p.take('}') {
			return m, true
		}
		if !p.need(',') {
			return nil, false
		}
	}
}

// field puts the field that comes into m.
func (p *parser) field(m map[string]any, depth int) bool {
	p.skip()
	if p.peek() != '"' {
		return p.fail(api.ErrJSON)
	}
	name, ok := p.quoted()
	if !ok {
		return false
	}
	if _, twice := m[name]; twice {
		p.at-- // ahead of its end it could have become another name
		return p.fail(api.ErrJSON)
	}
	p.skip()
	if !p.need(':') {
		return false
	}
	v, ok := p.value(depth)
	if ok {
		m[name] = v
	}
	return ok
}
