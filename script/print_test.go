package script_test

import (
	"fmt"
	"math/rand"
	"slices"
	"strings"
	"testing"

	"atrium/api"
	"atrium/http"
	"atrium/script"
)

func wantPrint(t *testing.T, what string, c api.Config, l []api.Term, e api.Errno) {
	t.Helper()
	s, got := script.Print(c, l)
	want(t, what, got, e)
	if e == api.OK {
		want(t, what, s, printAgain(c, l))
	} else {
		want(t, what, s, "")
	}
}

// full is a configuration and terms that have all there may be.
func full() (api.Config, []api.Term) {
	c := api.Config{
		Tenants:  []api.Tenant{{Name: "acme", Key: "k", Quota: 2}, {Name: "a b", Key: "\"\\\x00", Quota: -3}},
		Options:  api.Options{Shape: api.Shape{Block: 1, Restart: 2, Bits: 3}, Mem: 4, Zero: 5, Base: 6, Fan: 7},
		Capacity: 8,
	}
	return c, []api.Term{{
		Arrivals: []api.Arrival{{Step: 12, Conn: 13, Bytes: "GET / \r\n"}, {Step: -1, Conn: 0, Bytes: ""}},
		Timing:   api.Timing{Picks: []int{1, 0, 2}, Ticks: []int{3, 4}, Draws: []uint64{5, 1<<64 - 1}},
		Faults:   []api.Fault{{Op: 1, Nth: 2, Kind: 3}, {Op: 4, Nth: 5, Kind: 6}},
		Steps:    9,
		Stop:     -1,
		Crash:    api.Crash{Dir: 10, Keep: []int{11, 0}},
	}, {Steps: 0, Stop: 7}}
}

const fullText = `tenant "acme" "k" 2
tenant "a b" "\"\\\x00" -3
engine 1 2 3 4 5 6 7
disk 8
term 9 -1
picks 1 0 2
ticks 3 4
draws 5 18446744073709551615
fault 1 2 3
fault 4 5 6
at 12 13 "GET / \x0d\x0a"
at -1 0 ""
crash 10 11 0
term 0 7
`

func TestPrint(t *testing.T) { // P28.2, and the chapter's example
	c, l := full()
	s, e := script.Print(c, l)
	want(t, "Print", e, api.OK)
	want(t, "Print", s, fullText)
	s, e = script.Print(api.Config{}, nil)
	want(t, "Print of nothing", e, api.OK)
	want(t, "Print of nothing", s, "engine 0 0 0 0 0 0 0\ndisk 0\n")
	s, e = script.Print(api.Config{Tenants: []api.Tenant{{Name: "acme", Key: "k", Quota: 2}}}, []api.Term{{Steps: 9, Stop: -1}})
	want(t, "the example", e, api.OK)
	want(t, "the example", s, "tenant \"acme\" \"k\" 2\nengine 0 0 0 0 0 0 0\ndisk 0\nterm 9 -1\n")
}

func TestPrintCrash(t *testing.T) { // P28.2: a crash stands there if Dir is not 0, or Keep is not empty
	for s, x := range map[string]api.Crash{
		"":              {},
		"crash 1\n":     {Dir: 1},
		"crash -1\n":    {Dir: -1},
		"crash 0 0\n":   {Keep: []int{0}},
		"crash 0 3 4\n": {Keep: []int{3, 4}},
		"crash 2 -5\n":  {Dir: 2, Keep: []int{-5}},
	} {
		got, e := script.Print(api.Config{}, []api.Term{{Crash: x}})
		want(t, "Print", e, api.OK)
		want(t, "Print", got, "engine 0 0 0 0 0 0 0\ndisk 0\nterm 0 0\n"+s)
	}
}

// fill is a list of so many.
func fill[T any](n int, x T) []T {
	return slices.Repeat([]T{x}, n)
}

// limits are the things of which there may be so many, each by how a play with n of it is made.
var limits = map[string]struct {
	most int
	with func(n int) (api.Config, []api.Term)
}{
	"tenants":  {16, func(n int) (api.Config, []api.Term) { return api.Config{Tenants: fill(n, api.Tenant{})}, nil }},
	"terms":    {8, func(n int) (api.Config, []api.Term) { return api.Config{}, fill(n, api.Term{}) }},
	"arrivals": {256, inLast(func(n int) api.Term { return api.Term{Arrivals: fill(n, api.Arrival{})} })},
	"faults":   {64, inLast(func(n int) api.Term { return api.Term{Faults: fill(n, api.Fault{})} })},
	"picks":    {65536, inLast(func(n int) api.Term { return api.Term{Timing: api.Timing{Picks: fill(n, 0)}} })},
	"ticks":    {65536, inLast(func(n int) api.Term { return api.Term{Timing: api.Timing{Ticks: fill(n, 0)}} })},
	"draws":    {65536, inLast(func(n int) api.Term { return api.Term{Timing: api.Timing{Draws: fill(n, uint64(0))}} })},
}

// inLast puts a term behind another one.
func inLast(with func(n int) api.Term) func(n int) (api.Config, []api.Term) {
	return func(n int) (api.Config, []api.Term) { return api.Config{}, []api.Term{{}, with(n)} }
}

func TestLimits(t *testing.T) { // P28.2, P28.3: each limit met, and passed by one
	for what, x := range limits {
		c, l := x.with(x.most)
		wantPrint(t, what, c, l, api.OK)
		wantParse(t, printAgain(c, l), told{c: c, l: l})
		c, l = x.with(x.most + 1)
		wantPrint(t, what+", one more", c, l, api.ErrLong)
		wantParse(t, printAgain(c, l), refused(api.ErrLong, 0))
		wantParse(t, printAgain(c, l)+"disk 0\n", refused(api.ErrLine, strings.Count(printAgain(c, l), "\n"))) // named first
		if c.Capacity = 1e18; len(l) > 0 {
			l[0].Crash.Keep = []int{-1e18}
		}
		wantPrint(t, what+", one more, and a wide number", c, l, api.ErrLong)
	}
}

// numbers is where each number of a play stands.
func numbers(c *api.Config, l []api.Term) []*int {
	o, x := &c.Options, &l[0]
	return []*int{
		&c.Tenants[0].Quota, &c.Tenants[1].Quota, &o.Shape.Block, &o.Shape.Restart, &o.Shape.Bits, &o.Mem, &o.Zero, &o.Base, &o.Fan, &c.Capacity,
		&x.Steps, &x.Stop, &l[1].Steps, &l[1].Stop, &x.Timing.Picks[0], &x.Timing.Picks[2], &x.Timing.Ticks[0], &x.Timing.Ticks[1],
		&x.Faults[0].Op, &x.Faults[0].Nth, &x.Faults[1].Kind, &x.Arrivals[0].Step, &x.Arrivals[1].Conn, &x.Crash.Dir, &x.Crash.Keep[0], &x.Crash.Keep[1],
	}
}

func TestPrintNumbers(t *testing.T) { // P28.2: 18 digits and 19, wherever a number stands
	c, l := full()
	for i := range numbers(&c, l) {
		for n, e := range map[int]api.Errno{edge: api.OK, -edge: api.OK, edge + 1: api.ErrLine, -edge - 1: api.ErrLine, 1<<63 - 1: api.ErrLine, -1 << 63: api.ErrLine, 0: api.OK, -1: api.OK} {
			c, l := full()
			*numbers(&c, l)[i] = n
			wantPrint(t, fmt.Sprintf("number %d: %d", i, n), c, l, e)
		}
	}
	c, l = full()
	l[0].Timing.Draws = []uint64{0, edge, edge + 1, 1<<63 - 1, 1 << 63, 1<<64 - 1, 9999999999999999999, 10000000000000000000}
	wantPrint(t, "draws have more", c, l, api.OK)
	l[0].Arrivals[0].Bytes = strings.Repeat("x", 1<<20+1)
	wantPrint(t, "a text too long", c, l, api.ErrLong)
	c.Capacity = edge + 1
	wantPrint(t, "a number ahead of a text too long", c, l, api.ErrLine)
	c, l = full()
	l[0].Arrivals[0].Bytes = strings.Repeat("x", 1<<20+1)
	l[1].Stop = -edge - 1
	wantPrint(t, "a number behind a text too long", c, l, api.ErrLine)
}

// sized is a play whose text has just n bytes.
func sized(n int, one string) (api.Config, []api.Term) {
	l := []api.Term{{Arrivals: []api.Arrival{{}}}, {Steps: 3}}
	room := n - len(printAgain(api.Config{}, l))
	each := len(quoted(one)) - 2
	l[0].Arrivals[0].Bytes = strings.Repeat(one, room/each) + strings.Repeat("a", room%each)
	return api.Config{}, l
}

func TestPrintSize(t *testing.T) { // P28.2, P28.3: a text of 2^20 bytes, and of one more
	for _, one := range []string{"a", "\x00", "\""} {
		c, l := sized(1<<20, one)
		s, e := script.Print(c, l)
		want(t, "Print", e, api.OK)
		want(t, "how long it is", len(s), 1<<20)
		wantParse(t, s, told{c: c, l: l})
		wantParse(t, s+"\n", refused(api.ErrLong, 0))
		c, l = sized(1<<20+1, one)
		wantPrint(t, "a byte more", c, l, api.ErrLong)
		wantParse(t, printAgain(c, l), refused(api.ErrLong, 0))
	}
	wantParse(t, strings.Repeat("?\n", 1<<19), refused(api.ErrLine, 0))
	wantParse(t, strings.Repeat("?\n", 1<<19)+"?", refused(api.ErrLong, 0))
	c := api.Config{Tenants: fill(16, api.Tenant{Name: strings.Repeat("\x00", 1<<14), Key: ""})} // quoted it is a text of 2^20 bytes and more
	wantPrint(t, "names", c, nil, api.ErrLong)
	wantPrint(t, "a crash", api.Config{}, []api.Term{{Crash: api.Crash{Keep: fill(1<<20, 0)}}}, api.ErrLong)
	wantPrint(t, "a crash", api.Config{}, []api.Term{{Crash: api.Crash{Keep: fill(1<<18, 0)}}}, api.OK)
	wantPrint(t, "a huge text", api.Config{Tenants: []api.Tenant{{Key: strings.Repeat("\x00", 1<<26)}}}, nil, api.ErrLong)
}

func TestPrintKeeps(t *testing.T) { // R3: what is handed in is not changed
	c, l := full()
	ahead := fmt.Sprintf("%q %q", fmt.Sprint(c), fmt.Sprint(l))
	script.Print(c, l)
	want(t, "behind Print", fmt.Sprintf("%q %q", fmt.Sprint(c), fmt.Sprint(l)), ahead)
}

func TestRequest(t *testing.T) { // P28.4
	for _, x := range []struct{ method, target, credential, body, should string }{
		{"GET", "/me", "", "", "GET /me HTTP/1.1\r\nHost: atrium\r\n\r\n"},
		{"GET", "/me", "c", "", "GET /me HTTP/1.1\r\nHost: atrium\r\nAuthorization: Bearer c\r\n\r\n"},
		{"POST", "/sessions", "", "{}", "POST /sessions HTTP/1.1\r\nHost: atrium\r\nContent-Length: 2\r\n\r\n{}"},
		{"POST", "/sessions", "acme.00", "0123456789", "POST /sessions HTTP/1.1\r\nHost: atrium\r\nAuthorization: Bearer acme.00\r\nContent-Length: 10\r\n\r\n0123456789"},
		{"", "", "", "", "  HTTP/1.1\r\nHost: atrium\r\n\r\n"},
		{"a\x00", "\xff ", " \r\n", "\r\n\r\n\x00", "a\x00 \xff  HTTP/1.1\r\nHost: atrium\r\nAuthorization: Bearer  \r\n\r\nContent-Length: 5\r\n\r\n\r\n\r\n\x00"},
	} {
		want(t, "Request", script.Request(x.method, x.target, x.credential, x.body), x.should)
	}
	r := rand.New(rand.NewSource(4))
	for range 2000 {
		m, target, c, body := anyText(r), anyText(r), anyText(r), anyText(r)
		should := m + " " + target + " HTTP/1.1\r\nHost: atrium\r\n"
		if c != "" {
			should += "Authorization: Bearer " + c + "\r\n"
		}
		if body != "" {
			should += fmt.Sprintf("Content-Length: %d\r\n", len(body))
		}
		want(t, "Request", script.Request(m, target, c, body), should+"\r\n"+body)
	}
}

func TestRequestIsOne(t *testing.T) { // P28.4: layer 17 takes it
	s := script.Request("POST", "/sessions", "acme.00", "{}")
	r, size, e := http.Parse(s + "more")
	want(t, "Parse", e, api.OK)
	want(t, "its size", size, len(s))
	want(t, "the request", r, api.Request{Method: "POST", Target: "/sessions", Body: "{}", Fields: []api.Field{{Name: "Host", Value: "atrium"}, {Name: "Authorization", Value: "Bearer acme.00"}, {Name: "Content-Length", Value: "2"}}})
	for body, e := range map[string]api.Errno{strings.Repeat("x", 8192): api.OK, strings.Repeat("x", 8193): api.ErrBig} {
		_, _, got := http.Parse(script.Request("GET", "/", "", body))
		want(t, "Parse", got, e)
	}
}
