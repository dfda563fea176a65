package shell_test

import (
	"fmt"
	"math/rand"
	"reflect"
	"strings"
	"testing"

	"atrium/api"
	"atrium/cred"
	"atrium/lin"
	"atrium/script"
	"atrium/server"
	"atrium/shell"
)

// want fails the test, if what was told is not what should be.
func want[T any](t *testing.T, what string, got, should T) {
	t.Helper()
	if !reflect.DeepEqual(got, should) {
		t.Errorf("%.300s: %.900s, not %.900s", what, fmt.Sprintf("%q", any(got)), fmt.Sprintf("%q", any(should)))
	}
}

// commands is all there are.
var commands = []string{"!new", "!lines", "!check", "!print", "!mint", "!play", "!sent", "!end", "!explain", "!worlds"}

// asking is those that ask what the text says.
var asking = commands[2:]

// playing is those that play it.
var playing = commands[5:]

// second is a shell, told a second time.
type second struct{ lines []string }

func (s *second) text() string {
	text := ""
	for _, line := range s.lines {
		text += line + "\n"
	}
	return text
}

func (s *second) line(line string) string {
	switch {
	case strings.ContainsRune(line, '\n'):
		return "error 1"
	case line == "!new":
		s.lines = nil
		return "0"
	case line == "!lines":
		return fmt.Sprint(len(s.lines))
	case strings.HasPrefix(line, "!"):
		if strings.Contains(strings.Join(asking, "|")+"|", line+"|") {
			return askAgain(line, s.text())
		}
		return "error 300"
	case len(s.text())+len(line) >= api.MaxScript:
		return "error 3"
	}
	s.lines = append(s.lines, line)
	return ""
}

// askAgain is what a command tells of a text.
func askAgain(command, text string) string {
	c, l, e, place := script.Parse(text)
	if e != api.OK {
		return fmt.Sprintf("error %d at %d", e, place)
	}
	switch command {
	case "!check":
		if e := server.Check(c, l); e != api.OK {
			return fmt.Sprintf("error %d", e)
		}
		return "ok"
	case "!print":
		return text[:len(text)-1]
	case "!mint":
		s := ""
		for _, t := range c.Tenants {
			name := script.Quote(t.Name)
			if m, e := cred.Mint(t); e == api.OK {
				s += fmt.Sprintf("%s %s\n", name, m)
			} else {
				s += fmt.Sprintf("%s error %d\n", name, e)
			}
		}
		return strings.TrimSuffix(s, "\n")
	}
	x := server.Play(c, l)
	if x.Err != api.OK {
		return fmt.Sprintf("error %d", x.Err)
	}
	return strings.TrimSuffix(tellAgain(command, c, l, x), "\n")
}

func tellAgain(command string, c api.Config, l []api.Term, x api.Told) string {
	var b strings.Builder
	switch command {
	case "!worlds":
		fmt.Fprintln(&b, lin.Worlds(c, x))
	case "!explain":
		if is, n := lin.Order(c, l, x); !is {
			fmt.Fprintln(&b, "order", n)
		} else if is, n := lin.Sent(c, l, x); !is {
			fmt.Fprintln(&b, "sent", n)
		} else if is, n := lin.Explain(c, l, x); !is {
			fmt.Fprintln(&b, "explain", n)
		} else {
			fmt.Fprintln(&b, "explained")
		}
	case "!end":
		for i, k := range x.End {
			fmt.Fprintln(&b, script.Quote(c.Tenants[i].Name), len(k.Sessions), len(k.Entries))
			for _, s := range k.Sessions {
				fmt.Fprintln(&b, "session", script.Quote(s.Token), script.Quote(s.User), script.Quote(s.Data), s.Expires)
			}
			for _, e := range k.Entries {
				fmt.Fprintln(&b, "entry", e.Number, e.Kind, e.Tick, script.Quote(e.Subject))
			}
		}
	}
	for i, s := range x.Terms {
		if command == "!play" {
			fmt.Fprintf(&b, "term %d open %d steps %d clock %d\n", i, s.Open, s.Steps, s.Clock)
			for _, a := range s.Asked {
				fmt.Fprintf(&b, "%d %d first %d point %d done %d status %d fate %d\n", a.Conn, a.Nth, a.First, a.Point, a.Done, a.Status, a.Fate)
			}
		}
		for conn, y := range s.Lines {
			if command == "!sent" && y.Output != "" {
				fmt.Fprintf(&b, "%d %d %s%s\n", i, conn, script.Quote(y.Output), map[bool]string{true: " closed"}[y.Closed])
			}
		}
	}
	return b.String()
}

// wantLine gives a line to both shells.
func wantLine(t *testing.T, s *shell.Shell, other *second, line string) {
	t.Helper()
	want(t, fmt.Sprintf("Line %q", line), s.Line(line), other.line(line))
	want(t, fmt.Sprintf("Text behind %q", line), s.Text(), other.text())
}

// told is a shell with a text, line by line.
func told(t *testing.T, text string) *shell.Shell {
	t.Helper()
	s := shell.New()
	for _, line := range strings.Split(strings.TrimSuffix(text, "\n"), "\n") {
		want(t, fmt.Sprintf("Line %.100q", line), s.Line(line), "")
	}
	want(t, "Text", s.Text(), text)
	return s
}

// wantAll holds what each command tells of a text against the second telling, twice.
func wantAll(t *testing.T, text string) map[string]string {
	t.Helper()
	s := told(t, text)
	all := map[string]string{}
	for range 2 {
		for _, x := range commands[1:] {
			should := fmt.Sprint(strings.Count(text, "\n"))
			if x != "!lines" {
				should = askAgain(x, text)
			}
			all[x] = s.Line(x)
			want(t, x+" of "+text, all[x], should)
			want(t, x+": Text", s.Text(), text)
		}
	}
	return all
}

// The lines with which most texts begin.
const (
	acme   = "tenant \"acme\" \"k\" 2\n"
	engine = "engine 256 4 8 4096 2 4096 4\n"
	disk   = "disk 1048576\n"
)

var whose = api.Tenant{Name: "acme", Key: "k", Quota: 2}

// ask is a line by which a request arrives.
func ask(step, conn int, t api.Tenant, method, target, body string) string {
	s, e := cred.Mint(t)
	if e != api.OK {
		panic(e)
	}
	return arrive(step, conn, script.Request(method, target, s, body))
}

func arrive(step, conn int, bytes string) string {
	return fmt.Sprintf("at %d %d %s\n", step, conn, script.Quote(bytes))
}

func pickOf[T any](r *rand.Rand, l ...T) T {
	return l[r.Intn(len(l))]
}
