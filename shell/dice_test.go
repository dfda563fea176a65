package shell_test

import (
	"fmt"
	"math/rand"
	"strings"

	"atrium/api"
	"atrium/script"
	"atrium/server"
)

// dice makes texts.
type dice struct {
	r       *rand.Rand
	tenants []api.Tenant
	tokens  []string // those that somebody was told
}

func newDice(seed int64) *dice {
	r := rand.New(rand.NewSource(seed))
	d := &dice{r: r, tenants: []api.Tenant{whose}}
	if r.Intn(2) == 0 {
		d.tenants = append(d.tenants, api.Tenant{Name: "b-2", Key: "\x00\"\\", Quota: r.Intn(5)})
	}
	return d
}

// request is any, but for its step and connection.
func (d *dice) request(step, conn int) string {
	t := pickOf(d.r, d.tenants...)
	token := pickOf(d.r, append(d.tokens, "none")...)
	switch d.r.Intn(14) {
	case 0:
		return ask(step, conn, t, "GET", "/sessions/"+token, "")
	case 1:
		return ask(step, conn, t, "POST", "/sessions/"+token+"/touch", fmt.Sprintf(`{"ttl":%d}`, d.r.Intn(30)))
	case 2:
		return ask(step, conn, t, "DELETE", "/sessions/"+token, "")
	case 3:
		return ask(step, conn, t, "DELETE", pickOf(d.r, "/users/ada/sessions", "/sessions"), "")
	case 4:
		return ask(step, conn, t, "GET", pickOf(d.r, "/users/ada/sessions", "/audit", "/stats", "/audit?from=0"), "")
	case 5:
		t.Key += "x"
		return ask(step, conn, t, "GET", "/stats", "")
	case 6:
		return arrive(step, conn, pickOf(d.r, "", "\x00\r\n\r\n", "GET /", strings.Repeat("x", 5000), "GET / HTTP/1.1\r\nHost: x\r\nConnection: close\r\n\r\n"))
	}
	return ask(step, conn, t, "POST", "/sessions", fmt.Sprintf(`{"user":%q,"ttl":%d,"data":%q}`, pickOf(d.r, "ada", "eve", "é~"), pickOf(d.r, 1, 5, 60, 1<<31-1), pickOf(d.r, "", "x", "\n\"", "é")))
}

// numbers is a line of some, if there are any.
func (d *dice) numbers(word string, most int, one func() int) string {
	n := d.r.Intn(most)
	if n == 0 {
		return ""
	}
	s := word
	for range n {
		s += fmt.Sprint(" ", one())
	}
	return s + "\n"
}

// term is the lines of one.
func (d *dice) term() string {
	steps, stop := 8+d.r.Intn(60), -1
	if d.r.Intn(3) == 0 {
		stop = d.r.Intn(60)
	}
	s := fmt.Sprintf("term %d %d\n", steps, stop)
	conns := 1 + d.r.Intn(3)
	s += d.numbers("picks", steps, func() int { return pickOf(d.r, d.r.Intn(conns), d.r.Intn(conns), d.r.Intn(11)) })
	s += d.numbers("ticks", steps, func() int { return pickOf(d.r, 0, 0, 1, d.r.Intn(5)) })
	s += d.numbers("draws", 3, func() int { return d.r.Intn(9) })
	if d.r.Intn(3) == 0 {
		s += fmt.Sprintf("fault %d %d %d\n", 1+d.r.Intn(7), 1+d.r.Intn(9), 1+d.r.Intn(2))
	}
	for range d.r.Intn(12) {
		s += d.request(d.r.Intn(steps), d.r.Intn(conns))
	}
	if d.r.Intn(2) == 0 {
		s += fmt.Sprintf("crash %d %d %d 99\n", d.r.Intn(5)-1, d.r.Intn(200), d.r.Intn(200))
	}
	return s
}

// text is one that script.Parse takes. Now and then it may not be played, or has no room.
func (d *dice) text() string {
	s := ""
	for _, t := range d.tenants {
		s += fmt.Sprintf("tenant %s %s %d\n", script.Quote(t.Name), script.Quote(t.Key), t.Quota)
	}
	s += fmt.Sprintf("engine 256 4 8 %d %d 4096 4\n", pickOf(d.r, 1, 300, 4096), 1+d.r.Intn(3))
	s += fmt.Sprintf("disk %d\n", pickOf(d.r, 1<<20, 1<<20, 1<<20, 2500, 700, 0, -1))
	for range d.r.Intn(4) {
		d.learn(s)
		s += d.term()
	}
	return s
}

// learn takes the tokens down that a text's play tells.
func (d *dice) learn(text string) {
	c, l, _, _ := script.Parse(text)
	for _, s := range server.Play(c, l).Terms {
		for _, a := range s.Asked {
			if a.Answer.Token != "" {
				d.tokens = append(d.tokens, a.Answer.Token)
			}
		}
	}
}

// spoil turns a text somewhere.
func (d *dice) spoil(s string) string {
	i := d.r.Intn(len(s))
	switch d.r.Intn(4) {
	case 0:
		return s[:i] + s[i+1:]
	case 1:
		return s[:i] + pickOf(d.r, " ", "\n", "0", "\"", "-") + s[i:]
	case 2:
		return s[:i] + pickOf(d.r, "x", "9", "\n", "\xff") + s[i+1:]
	}
	l := strings.SplitAfter(s, "\n")
	j, k := d.r.Intn(len(l)), d.r.Intn(len(l))
	l[j], l[k] = l[k], l[j]
	return strings.Join(l, "")
}

// line is any: of a text, a command, or none.
func (d *dice) line(text string) string {
	switch d.r.Intn(5) {
	case 0:
		return pickOf(d.r, "", "x", "!", "! new", "a\nb", "!new\n", "disk 5", strings.Repeat("y", 1<<19))
	case 1:
		return pickOf(d.r, commands...)
	}
	return pickOf(d.r, strings.Split(text, "\n")...)
}
