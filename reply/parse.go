package reply

import (
	"maps"
	"slices"
	"strings"

	"atrium/api"
)

// The kinds of lines behind a head's first one, in their order.
const (
	kindType = iota
	kindLength
	kindCookie
	kindClose
	kindLast
)

// opening is the bytes with which a line of a kind begins: all of it, if it says no more.
func opening(kind int) string {
	switch kind {
	case kindType:
		return typeSays + lineEnd
	case kindLength:
		return lengthSays
	case kindCookie:
		return cookieSays
	case kindClose:
		return closeSays + lineEnd
	}
	return lineEnd
}

// reader goes through bytes: rest is what comes, fault the first that was met. Behind a fault what is read counts no more.
type reader struct {
	rest  string
	fault api.Errno
}

// Parse is the reply with whose bytes a text begins, and how many these are.
func Parse(s string) (api.Reply, int, api.Errno) {
	p := &reader{rest: s}
	r := p.reply()
	if p.fault != api.OK {
		return api.Reply{}, 0, p.fault
	}
	return r, len(s) - len(p.rest), api.OK
}

// All is the replies of a text, and where what is none begins.
func All(s string) ([]api.Reply, int, api.Errno) {
	var l []api.Reply
	at := 0
	for at < len(s) {
		r, size, e := Parse(s[at:])
		if e != api.OK {
			return l, at, e
		}
		l = append(l, r)
		at += size
	}
	return l, at, api.OK
}

// reply is the reply that comes.
func (p *reader) reply() api.Reply {
	r := api.Reply{Status: p.status()}
	kind, size, typed := kindType, 0, false
	if r.Status == noContent {
		kind = kindCookie
	}
read:
	for ; p.fault == api.OK; kind++ {
		kind = p.kind(kind)
		switch kind {
		case kindType:
			typed = true
		case kindLength:
			size = p.size(typed)
		case kindCookie:
			r.Cookie = p.cookie()
		case kindClose:
			r.Close = true
		case kindLast:
			r.Body = p.bytes(size)
			break read
		}
	}
	return r
}

// fail keeps the first fault.
func (p *reader) fail(e api.Errno) {
	if p.fault == api.OK {
		p.fault = e
	}
}

// status is the Status of the first line, which comes.
func (p *reader) status() int {
	known := phrases()
	all := slices.Sorted(maps.Keys(known))
	var lines []string
	for _, status := range all {
		lines = append(lines, statusLine(status, known[status].words))
	}
	return all[p.choose(lines...)]
}

// kind is that of the line that comes, from a kind on; the length may not be passed over.
func (p *reader) kind(from int) int {
	to := kindLast
	if from <= kindLength {
		to = kindLength
	}
	var openings []string
	for kind := from; kind <= to; kind++ {
		openings = append(openings, opening(kind))
	}
	return from + p.choose(openings...)
}

// choose passes over the one of some texts that comes; none of them begins another one. It is the first one, if there is a fault.
func (p *reader) choose(texts ...string) int {
	e := api.ErrReply
	for i, text := range texts {
		if rest, is := strings.CutPrefix(p.rest, text); is {
			p.rest = rest
			return i
		}
		if strings.HasPrefix(text, p.rest) {
			e = api.ErrShort
		}
	}
	p.fail(e)
	return 0
}

// size is what a length says, and passes over its line: 0 of an empty body, which has no type, else a number without a nought ahead. A byte that makes it another one is at fault even where the text ends behind it.
func (p *reader) size(typed bool) int {
	n, i := 0, 0
	for ; i < len(p.rest) && p.rest[i] >= '0' && p.rest[i] <= '9'; i++ {
		n = 10*n + int(p.rest[i]-'0')
		if n > api.MaxReply || typed == (n == 0) || !typed && i > 0 {
			p.fail(api.ErrReply)
			return 0
		}
	}
	p.line(i)
	return n
}

// cookie is what a Set-Cookie says, and passes over its line.
func (p *reader) cookie() string {
	n := inCookie(p.rest[:min(len(p.rest), maxCookie)])
	return p.line(n)
}

// line is the next n bytes, behind which a line ends; there must be one, if anything comes.
func (p *reader) line(n int) string {
	says := p.rest[:n]
	if n == 0 && p.rest != "" {
		p.fail(api.ErrReply)
	}
	p.rest = p.rest[n:]
	p.choose(lineEnd)
	return says
}

// bytes is the next n bytes.
func (p *reader) bytes(n int) string {
	if len(p.rest) < n {
		p.fail(api.ErrShort)
		return ""
	}
	says := p.rest[:n]
	p.rest = p.rest[n:]
	return says
}
