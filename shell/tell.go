package shell

import (
	"strconv"
	"strings"

	"atrium/api"
	"atrium/lin"
	"atrium/script"
)

// wrong is an error as it is told.
func wrong(e api.Errno) string {
	return words("error", number(int(e)))
}

// words is some as a line.
func words(l ...string) string {
	return strings.Join(l, " ")
}

func number(n int) string {
	return strconv.Itoa(n)
}

func great(n uint64) string {
	return strconv.FormatUint(n, 10)
}

// lines is some as what is told.
func lines(l []string) string {
	return strings.Join(l, lineEnd)
}

// play is what became of the terms, and of their requests.
func (r record) play() string {
	var l []string
	for i, s := range r.told.Terms {
		l = append(l, words("term", number(i), "open", number(int(s.Open)), "steps", number(s.Steps), "clock", great(s.Clock)))
		for _, a := range s.Asked {
			l = append(l, words(number(a.Conn), number(a.Nth), "first", number(a.First), "point", number(a.Point), "done", number(a.Done), "status", number(a.Status), "fate", number(a.Fate)))
		}
	}
	return lines(l)
}

// sent is what was sent.
func (r record) sent() string {
	var l []string
	for i, s := range r.told.Terms {
		for conn, x := range s.Lines {
			if x.Output == "" {
				continue
			}
			line := words(number(i), number(conn), script.Quote(x.Output))
			if x.Closed {
				line = words(line, "closed")
			}
			l = append(l, line)
		}
	}
	return lines(l)
}

// end is what an opening finds in the end.
func (r record) end() string {
	var l []string
	for i, k := range r.told.End {
		name := r.config.Tenants[i].Name
		l = append(l, words(script.Quote(name), number(len(k.Sessions)), number(len(k.Entries))))
		for _, s := range k.Sessions {
			l = append(l, words("session", script.Quote(s.Token), script.Quote(s.User), script.Quote(s.Data), great(s.Expires)))
		}
		for _, e := range k.Entries {
			l = append(l, words("entry", number(e.Number), number(e.Kind), great(e.Tick), script.Quote(e.Subject)))
		}
	}
	return lines(l)
}

// judge is a question whether what a record says can be; if not, where it can not.
type judge struct {
	name string
	ask  func(c api.Config, l []api.Term, t api.Told) (bool, int)
}

// judges is all that is asked, one behind the other.
func judges() []judge {
	return []judge{
		{"order", lin.Order},
		{"sent", lin.Sent},
		{"explain", lin.Explain},
	}
}

// explain tells whether what became of it can be.
func (r record) explain() string {
	for _, x := range judges() {
		if is, n := x.ask(r.config, r.terms, r.told); !is {
			return words(x.name, number(n))
		}
	}
	return "explained"
}

// worlds is in how many worlds it may have ended.
func (r record) worlds() string {
	return number(lin.Worlds(r.config, r.told))
}
