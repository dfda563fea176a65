package json

import (
	"strconv"
	"strings"

	"atrium/api"
	"atrium/text"
)

const hexDigits = "0123456789abcdef"

// mostBlanks is how wide a step of a text that is printed wide may be.
const mostBlanks = 8

// printer puts a text together; wide: with lines, and by blanks more for each one around.
type printer struct {
	out  []byte
	wide bool
	by   int
}

// Print is a value's text.
func Print(v any) (string, api.Errno) {
	return printed(v, &printer{})
}

// Indent is a value's text, line by line.
func Indent(v any, by int) (string, api.Errno) {
	if by < 0 || by > mostBlanks {
		return "", api.ErrArg
	}
	return printed(v, &printer{wide: true, by: by})
}

func printed(v any, p *printer) (string, api.Errno) {
	if !isValue(v, api.MaxDepth) {
		return "", api.ErrValue
	}
	p.value(v, 0)
	if p.isOver() {
		return "", api.ErrLong
	}
	return string(p.out), api.OK
}

// isOver tells whether the text is too long already, so that nothing more need be put.
func (p *printer) isOver() bool {
	return len(p.out) > api.MaxJSON
}

func (p *printer) put(s string) {
	p.out = append(p.out, s...)
}

// value puts a value, with so many arrays and objects around it.
func (p *printer) value(v any, depth int) {
	switch x := v.(type) {
	case nil:
		p.put(wordNull)
	case bool:
		p.put(strconv.FormatBool(x))
	case int:
		p.put(strconv.Itoa(x))
	case string:
		p.quote(x)
	case []any:
		p.array(x, depth)
	case map[string]any:
		p.object(x, depth)
	}
}

func (p *printer) array(l []any, depth int) {
	p.put("[")
	for i, x := range l {
		if p.isOver() {
			return
		}
		p.next(i, depth+1)
		p.value(x, depth+1)
	}
	p.last(len(l), depth)
	p.put("]")
}

func (p *printer) object(m map[string]any, depth int) {
	p.put("{")
	for i, name := range namesOf(m) {
		if p.isOver() {
			return
		}
		p.next(i, depth+1)
		p.quote(name)
		p.put(":")
		if p.wide {
			p.put(" ")
		}
		p.value(m[name], depth+1)
	}
	p.last(len(m), depth)
	p.put("}")
}

// next is what stands ahead of an item or a field with so many ahead of it.
func (p *printer) next(ahead, depth int) {
	if ahead > 0 {
		p.put(",")
	}
	p.line(depth)
}

// last is what stands ahead of the closing bracket of one with so many parts.
func (p *printer) last(parts, depth int) {
	if parts > 0 {
		p.line(depth)
	}
}

// line begins a line, if there are any.
func (p *printer) line(depth int) {
	if p.wide {
		p.put("\n" + strings.Repeat(" ", depth*p.by))
	}
}

// Quote is a string's text.
func Quote(s string) (string, bool) {
	if !text.Valid(s) {
		return "", false
	}
	p := &printer{}
	p.quote(s)
	return string(p.out), true
}

func (p *printer) quote(s string) {
	p.put(`"`)
	from := 0
	for i, r := range s {
		if escaped := escapeOf(r); escaped != "" {
			p.put(s[from:i])
			p.put(escaped)
			from = i + 1 // what is escaped is one byte
		}
	}
	p.put(s[from:])
	p.put(`"`)
}

// escapeOf is how a rune is written that may not stand in a string as it is; empty of all others.
func escapeOf(r rune) string {
	switch r {
	case '"':
		return `\"`
	case '\\':
		return `\\`
	case '\b':
		return `\b`
	case '\f':
		return `\f`
	case '\n':
		return `\n`
	case '\r':
		return `\r`
	case '\t':
		return `\t`
	}
	if r < ' ' {
		return `\u00` + string([]byte{hexDigits[r>>4], hexDigits[r&15]})
	}
	return ""
}
