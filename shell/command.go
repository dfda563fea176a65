package shell

import (
	"bytes"
	"strings"

	"atrium/api"
	"atrium/cred"
	"atrium/script"
	"atrium/server"
)

// commands is what each command does.
func commands() map[string]func(s *Shell) string {
	return map[string]func(s *Shell) string{
		"!new":     (*Shell).clear,
		"!lines":   (*Shell).lines,
		"!check":   parsed(plan.check),
		"!print":   parsed(plan.print),
		"!mint":    parsed(plan.mint),
		"!play":    parsed(played(record.play)),
		"!sent":    parsed(played(record.sent)),
		"!end":     parsed(played(record.end)),
		"!explain": parsed(played(record.explain)),
		"!worlds":  parsed(played(record.worlds)),
	}
}

// plan is what a text says.
type plan struct {
	config api.Config
	terms  []api.Term
}

// record is what became of a plan.
type record struct {
	plan
	told api.Told
}

// parsed is a command that asks what the text says.
func parsed(tell func(p plan) string) func(s *Shell) string {
	return func(s *Shell) string {
		c, l, e, at := script.Parse(string(s.text))
		if e != api.OK {
			return words(wrong(e), "at", number(at))
		}
		return tell(plan{c, l})
	}
}

// played is what is told of what became of a plan.
func played(tell func(r record) string) func(p plan) string {
	return func(p plan) string {
		told := server.Play(p.config, p.terms)
		if told.Err != api.OK {
			return wrong(told.Err)
		}
		return tell(record{p, told})
	}
}

// clear lets the text be empty.
func (s *Shell) clear() string {
	s.text = nil
	return "0"
}

// lines is how many the text has.
func (s *Shell) lines() string {
	return number(bytes.Count(s.text, []byte(lineEnd)))
}

func (p plan) check() string {
	if e := server.Check(p.config, p.terms); e != api.OK {
		return wrong(e)
	}
	return "ok"
}

func (p plan) print() string {
	s, e := script.Print(p.config, p.terms)
	if e != api.OK {
		return wrong(e)
	}
	return strings.TrimSuffix(s, lineEnd)
}

// mint is the tenants' credentials.
func (p plan) mint() string {
	var l []string
	for _, t := range p.config.Tenants {
		s, e := cred.Mint(t)
		if e != api.OK {
			s = wrong(e)
		}
		l = append(l, words(script.Quote(t.Name), s))
	}
	return lines(l)
}
