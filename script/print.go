package script

import (
	"strconv"
	"strings"

	"atrium/api"
)

// printer writes lines, and keeps what is wrong with them. What would be too long is not written: it may be very much.
type printer struct {
	b    strings.Builder
	wide bool // a number had too many digits
	long bool // the text has too many bytes
}

// Print is the text of a configuration and its terms.
func Print(c api.Config, l []api.Term) (string, api.Errno) {
	if tooMany(c, l) {
		return "", api.ErrLong
	}
	p := &printer{}
	p.config(c)
	for _, t := range l {
		p.term(t)
	}
	switch {
	case p.wide:
		return "", api.ErrLine
	case p.long:
		return "", api.ErrLong
	}
	return p.b.String(), api.OK
}

func (p *printer) config(c api.Config) {
	for _, t := range c.Tenants {
		p.line(wordTenant, t.Name, t.Key, t.Quota)
	}
	o := c.Options
	p.line(wordEngine, o.Shape.Block, o.Shape.Restart, o.Shape.Bits, o.Mem, o.Zero, o.Base, o.Fan)
	p.line(wordDisk, c.Capacity)
}

func (p *printer) term(t api.Term) {
	p.line(wordTerm, t.Steps, t.Stop)
	if len(t.Timing.Picks) > 0 {
		p.line(wordPicks, t.Timing.Picks)
	}
	if len(t.Timing.Ticks) > 0 {
		p.line(wordTicks, t.Timing.Ticks)
	}
	if len(t.Timing.Draws) > 0 {
		p.line(wordDraws, t.Timing.Draws)
	}
	for _, x := range t.Faults {
		p.line(wordFault, x.Op, x.Nth, x.Kind)
	}
	for _, x := range t.Arrivals {
		p.line(wordAt, x.Step, x.Conn, x.Bytes)
	}
	if t.Crash.Dir != 0 || len(t.Crash.Keep) > 0 {
		p.line(wordCrash, t.Crash.Dir, t.Crash.Keep)
	}
}

// line writes a line: its first word, and what else it tells of.
func (p *printer) line(word string, parts ...any) {
	p.put(word)
	for _, part := range parts {
		p.part(part)
	}
	p.put(lineEnd)
}

// part writes the words of a part, each with a blank ahead.
func (p *printer) part(part any) {
	switch x := part.(type) {
	case string:
		p.text(x)
	case int:
		p.number(x)
	case []int:
		for _, n := range x {
			p.number(n)
		}
	case []uint64:
		for _, n := range x {
			p.word(strconv.FormatUint(n, 10))
		}
	}
}

func (p *printer) number(n int) {
	p.wide = p.wide || !isShort(n)
	p.word(strconv.Itoa(n))
}

// text writes a quoted text. What would not be written is not quoted: one that alone is too long, and all behind it.
func (p *printer) text(s string) {
	p.long = p.long || len(s) > api.MaxScript
	if !p.long {
		p.word(Quote(s))
	}
}

func (p *printer) word(s string) {
	p.put(string(blank) + s)
}

func (p *printer) put(s string) {
	p.long = p.long || len(s) > api.MaxScript-p.b.Len()
	if !p.long {
		p.b.WriteString(s)
	}
}
