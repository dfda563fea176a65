package lin_test

import (
	"math"
	"slices"
	"strings"
	"testing"

	"atrium/api"
	"atrium/server"
)

// wantSent holds what Sent tells of a record that is in order.
func wantSent(t *testing.T, what string, c api.Config, l []api.Term, x api.Told, should found) {
	t.Helper()
	got := look(t, what, c, l, x)
	want(t, what+": Order", got.order, fine)
	want(t, what+": Sent", got.sent, should)
}

// wantTurned holds what Sent tells of a record of one term of which something is changed.
func wantTurned(t *testing.T, what string, c api.Config, l api.Term, x api.Told, should found, turn func(s *api.Served)) {
	t.Helper()
	wantSent(t, what, c, []api.Term{l}, turned(x, func(x *api.Told) { turn(&x.Terms[0]) }), should)
}

// four is a term in which a connection is asked for a create, a read, what has no route, and a read that has no answer as yet; another one for what is refused and closes it.
func four(t *testing.T) (api.Config, api.Term, api.Told) {
	c := config(9)
	b := c.Tenants[0]
	picks := append(turns(64), 0, 0, 0)
	picks[len(picks)-2] = 5
	x := term(picks, at(0, 0, create(b, "ada", 99)+stats(b)+ask(b, "GET", "/none", "")), at(20, 0, stats(b)), at(3, 1, ask(b, "GET", "/%", "")), at(60, 2, stats(b)))
	x.Timing.Draws = []uint64{77}
	told := play(t, c, x)
	var l [][5]int
	for _, a := range told.Terms[0].Asked {
		l = append(l, [5]int{a.Conn, a.Nth, a.First, a.Point, a.Done})
	}
	want(t, "what is asked", l, [][5]int{{0, 0, 0, 16, 24}, {1, 0, 3, 9, 9}, {0, 1, 0, 40, 48}, {0, 2, 0, 56, 56}, {0, 3, 20, 66, -1}})
	return c, x, told
}

func TestSent(t *testing.T) { // P29.3: each thing that may be another one
	c, l, x := four(t)
	for _, y := range []struct {
		what   string
		should found
		turn   func(s *api.Served)
	}{
		{"as it is", fine, func(s *api.Served) {}},
		{"another First", bad0, func(s *api.Served) { s.Asked[0].First = 1 }},
		{"another First of what came later", bad0, func(s *api.Served) { s.Asked[4].First = 21 }},
		{"First is ahead of its bytes", bad0, func(s *api.Served) { s.Asked[4].First = 0 }},
		{"First of what has no call", bad0, func(s *api.Served) { s.Asked[1].First = 0 }},
		{"no call", bad0, func(s *api.Served) { s.Asked[0].IsCall = false }},
		{"nothing of a call", bad0, func(s *api.Served) { s.Asked[4].IsCall, s.Asked[4].Call = false, api.Call{} }},
		{"a call that is none", bad0, func(s *api.Served) { s.Asked[3].IsCall = true }},
		{"a Call of what has none", bad0, func(s *api.Served) { s.Asked[3].Call.Kind = api.CallStats }},
		{"a Draw of what has none", bad0, func(s *api.Served) { s.Asked[3].Call.Draw = 1 }},
		{"another Kind", bad0, func(s *api.Served) { s.Asked[4].Call.Kind = api.CallAudit }},
		{"another Tenant", bad0, func(s *api.Served) { s.Asked[0].Call.Tenant = 1 }},
		{"another User", bad0, func(s *api.Served) { s.Asked[0].Call.User = "eve" }},
		{"other Data", bad0, func(s *api.Served) { s.Asked[0].Call.Data = "" }},
		{"another TTL", bad0, func(s *api.Served) { s.Asked[0].Call.TTL-- }},
		{"a Token", bad0, func(s *api.Served) { s.Asked[0].Call.Token = "x" }},
		{"a From", bad0, func(s *api.Served) { s.Asked[2].Call.From = 1 }},
		{"another Draw", bad0, func(s *api.Served) { s.Asked[0].Call.Draw++ }},
		{"no Draw", bad0, func(s *api.Served) { s.Asked[0].Call.Draw = 0 }},
		{"a Draw of another number", bad0, func(s *api.Served) { s.Asked[0].Call.Draw = server.Draw(l.Timing, 0, 1) }},
		{"a Draw of another connection", bad0, func(s *api.Served) { s.Asked[0].Call.Draw = server.Draw(l.Timing, 1, 0) }},
		{"a Draw of another timing", bad0, func(s *api.Served) { s.Asked[0].Call.Draw = server.Draw(api.Timing{}, 0, 0) }},
		{"a Draw of a read", bad0, func(s *api.Served) { s.Asked[4].Call.Draw = server.Draw(l.Timing, 0, 3) }},
		{"a Status of what has no call", bad0, func(s *api.Served) { s.Asked[3].Status = 405 }},
		{"no Status of what has no call", bad0, func(s *api.Served) { s.Asked[3].Status = 0 }},
		{"a Status of a call", fine, func(s *api.Served) { s.Asked[0].Status = 500 }}, // its Answer is what is sent
		{"an Answer of what has no call", bad0, func(s *api.Served) { s.Asked[3].Answer.Status = 404 }},
		{"an Answer's list of what has no call", bad0, func(s *api.Served) { s.Asked[1].Answer.Tokens = []string{""} }},
		{"an empty list of what has no call", fine, func(s *api.Served) { s.Asked[1].Answer.Entries = []api.Entry{} }},
		{"another Status in the Answer", bad0, func(s *api.Served) { s.Asked[2].Answer.Status = 204 }},
		{"another token in the Answer", bad0, func(s *api.Served) { s.Asked[0].Answer.Token = token(2, 0) }},
		{"another number in the Answer", bad0, func(s *api.Served) { s.Asked[2].Answer.Live++ }},
		{"what the Answer does not tell", fine, func(s *api.Served) { s.Asked[2].Answer.User = "ada" }}, // Explain tells that
		{"an Answer that is not sent", fine, func(s *api.Served) { s.Asked[4].Answer.Live++ }},
		{"another Point, Tick, Fate", fine, func(s *api.Served) { s.Asked[2].Point, s.Asked[2].Tick, s.Asked[2].Fate = 41, 9, api.FateNone }},
		{"another Done", fine, func(s *api.Served) { s.Asked[2].Done = 50 }},
		{"not sent", bad0, func(s *api.Served) { s.Asked[2].Done = -1 }},
		{"sent, with no reply", bad0, func(s *api.Served) { s.Asked[4].Done = 66 }},
		{"no Asked", bad0, func(s *api.Served) { s.Asked = nil }},
		{"the last Asked missing, which was not sent", fine, func(s *api.Served) { s.Asked = s.Asked[:4] }},
		{"a sent Asked missing", bad0, func(s *api.Served) { s.Asked = s.Asked[:3] }},
		{"Asked of another connection missing", bad0, func(s *api.Served) { s.Asked = slices.Delete(s.Asked, 1, 2) }},
		{"an Asked too many", bad0, func(s *api.Served) {
			a := s.Asked[4]
			a.Nth, a.Point = 4, -1
			s.Asked = append(s.Asked, a)
		}},
		{"an Asked of bytes that are there, but were not taken", fine, func(s *api.Served) {
			a := s.Asked[4]
			a.Conn, a.Nth, a.First, a.Point = 2, 0, 60, -1
			s.Asked = append(s.Asked, a)
		}},
		{"an Asked where nothing came", bad0, func(s *api.Served) {
			a := s.Asked[4]
			a.Conn, a.Nth, a.Point = 6, 0, -1
			s.Asked = append(s.Asked, a)
		}},
		{"an Asked of connection 8", bad0, func(s *api.Served) { s.Asked = append(s.Asked, steps(8, 0, 0, -1, -1)) }},
		{"an Asked of connection -1", bad0, func(s *api.Served) { s.Asked = append(s.Asked, steps(-1, 0, 0, -1, -1)) }},
		{"connections stand in another order", fine, func(s *api.Served) { s.Asked[0], s.Asked[1] = s.Asked[1], s.Asked[0] }},
		{"two replies for one another", bad0, func(s *api.Served) {
			one, two, _ := strings.Cut(s.Lines[0].Output, "HTTP/1.1 200")
			s.Lines[0].Output = "HTTP/1.1 200" + two + one
		}},
		{"nothing sent", bad0, func(s *api.Served) { s.Lines[0].Output = "" }},
		{"sent twice", bad0, func(s *api.Served) { s.Lines[0].Output += s.Lines[0].Output }},
		{"sent where nothing is asked", bad0, func(s *api.Served) { s.Lines[7].Output = "x" }},
		{"lines for one another", bad0, func(s *api.Served) { s.Lines[0], s.Lines[1] = s.Lines[1], s.Lines[0] }},
		{"closed", bad0, func(s *api.Served) { s.Lines[0].Closed = true }},
		{"not closed", bad0, func(s *api.Served) { s.Lines[1].Closed = false }},
		{"closed where nothing is asked", bad0, func(s *api.Served) { s.Lines[7].Closed = true }},
		{"more Steps", fine, func(s *api.Served) { s.Steps = 4000 }},
		{"the greatest Steps", fine, func(s *api.Served) { s.Steps = math.MaxInt }},
	} {
		wantTurned(t, y.what, c, l, x, y.should, y.turn)
	}
}

func TestEachByteSent(t *testing.T) { // P29.3, P29.5: one that is turned, one missing, one more
	c, l, x := four(t)
	for conn := range 2 {
		for i := range len(x.Terms[0].Lines[conn].Output) {
			for _, with := range []string{"", "\x00", "0", "00"} {
				s := turned(x, func(x *api.Told) {
					out := &x.Terms[0].Lines[conn].Output
					*out = (*out)[:i] + with + (*out)[i+1:]
				})
				should := bad0
				if s.Terms[0].Lines[conn] == x.Terms[0].Lines[conn] {
					should = fine
				}
				wantSent(t, "a byte", c, []api.Term{l}, s, should)
			}
		}
		wantTurned(t, "one more", c, l, x, bad0, func(s *api.Served) { s.Lines[conn].Output += "\n" })
		wantTurned(t, "one more ahead", c, l, x, bad0, func(s *api.Served) { s.Lines[conn].Output = "\n" + s.Lines[conn].Output })
	}
}

func TestCutAnywhere(t *testing.T) { // P29.3: requests over Arrivals and connections
	c := config(9)
	b := c.Tenants[0]
	s := create(b, "ada", 9) + stats(b)
	for i := range len(s) + 1 {
		l := term(turns(80), at(0, 0, s[:i]), at(5, 0, s[i:]), at(2, 3, s[i:]))
		x := play(t, c, l)
		asked := x.Terms[0].Asked
		first := 0 // that of the second request
		if i <= len(s)-len(stats(b)) {
			first = 5
		}
		for _, a := range asked {
			if a.Conn == 0 && a.Nth == 1 {
				want(t, "First", a.First, first)
			}
		}
		l.Arrivals = l.Arrivals[:1]
		wantSent(t, "the second part did not come", c, []api.Term{l}, x, found{i == len(s), 0})
		l.Arrivals = []api.Arrival{at(0, 0, s[:i]), at(5, 1, s[i:]), at(2, 3, s[i:])}
		wantSent(t, "it came on another connection", c, []api.Term{l}, x, found{i == len(s), 0})
	}
	var l []api.Arrival
	for i := 0; i < len(s); i += 5 { // a few bytes at a step, on two connections
		l = append(l, at(i/5, 0, s[i:min(i+5, len(s))]), at(i/5, 7, s[i:min(i+5, len(s))]))
	}
	x := play(t, c, term(turns(200), l...))
	want(t, "asked", len(x.Terms[0].Asked), 4)
}

func TestArrivals(t *testing.T) { // P29.3: in the order of their steps, at one step in their own; those behind the Steps do not come
	c := config(9)
	b := c.Tenants[0]
	s := stats(b)
	l := term(turns(40), at(9, 0, s[30:]), at(2, 0, s[:10]), at(4, 0, s[10:20]), at(4, 0, ""), at(4, 0, s[20:30]), at(40, 1, s), at(39, 2, s))
	x := play(t, c, l)
	want(t, "asked", len(x.Terms[0].Asked), 1)
	want(t, "First", x.Terms[0].Asked[0].First, 2)
	other := l
	other.Arrivals = slices.Clone(l.Arrivals)
	other.Arrivals[2], other.Arrivals[4] = other.Arrivals[4], other.Arrivals[2]
	wantSent(t, "the other way round at one step", c, []api.Term{other}, x, bad0)
	late := func(conn, first int) func(s *api.Served) {
		return func(s *api.Served) {
			a := s.Asked[0]
			a.Conn, a.First, a.Point, a.Done = conn, first, -1, -1
			s.Asked = append(s.Asked, a)
		}
	}
	wantTurned(t, "ahead of the last step", c, l, x, fine, late(2, 39))
	wantTurned(t, "behind the steps", c, l, x, bad0, late(1, 40))
	wantTurned(t, "ahead of the last of more steps", c, l, x, fine, func(s *api.Served) {
		s.Steps = 41
		late(1, 40)(s)
	})
	wantTurned(t, "fewer steps", c, l, x, bad0, func(s *api.Served) {
		s.Steps = 39
		late(2, 39)(s)
	})
	l.Arrivals[0].Step = 39
	wantSent(t, "its end came too late", c, []api.Term{l}, turned(x, func(x *api.Told) { x.Terms[0].Steps = 39 }), bad0)
	l.Arrivals = []api.Arrival{at(-1, 0, s), at(0, 0, s)}
	y := api.Told{Terms: []api.Served{{Lines: lines(), Steps: 9, Asked: []api.Asked{{Point: -1, Done: -1, IsCall: true, Call: x.Terms[0].Asked[0].Call}}}}}
	wantSent(t, "ahead of all steps nothing comes", c, []api.Term{l}, y, fine)
	l.Arrivals = l.Arrivals[:1]
	wantSent(t, "ahead of all steps nothing comes, nor is it asked", c, []api.Term{l}, y, bad0)
}

func TestCloses(t *testing.T) { // P29.3: behind one that closes nothing is asked
	c := config(9)
	b := c.Tenants[0]
	for _, y := range []struct {
		what   string
		first  string
		sent   string // the reply, as it begins
		closes bool
	}{
		{"a call", stats(b), "HTTP/1.1 200 OK\r\n", false},
		{"a call that closes", ask(b, "GET", "/stats", "", closing), "HTTP/1.1 200 OK\r\n", true},
		{"a call that is told 400", create(b, "ada", 0), refusal("400 Bad Request", "bad", true), true},
		{"a call that is told 404", ask(b, "GET", "/sessions/x", ""), refusal("404 Not Found", "missing", false), false},
		{"a call that is told 404 and closes", ask(b, "GET", "/sessions/x", "", closing), refusal("404 Not Found", "missing", true), true},
		{"a refusal", ask(b, "GET", "/none", ""), refusal("404 Not Found", "route", false), false},
		{"a refusal that closes", ask(b, "GET", "/none", "", closing), refusal("404 Not Found", "route", true), true},
		{"400 target", ask(b, "GET", "/%", ""), refusal("400 Bad Request", "target", true), true},
		{"400 body", ask(b, "GET", "/stats", "x"), refusal("400 Bad Request", "body", true), true},
		{"401", strings.Replace(stats(b), "Bearer", "Other", 1), refusal("401 Unauthorized", "credential", false), false},
		{"405", ask(b, "PUT", "/stats", ""), refusal("405 Method Not Allowed", "method", false), false},
		{"no request", "GET\r\n\r\n", refusal("400 Bad Request", "request", true), true},
		{"no request, with what would close", "GET\r\n" + closing + "\r\n\r\n", refusal("400 Bad Request", "request", true), true},
		{"too large", ask(b, "GET", "/stats", "", "Content-Length: 9000"), refusal("413 Content Too Large", "large", true), true},
		{"too wide", "GET /" + strings.Repeat("x", 4091), refusal("431 Request Header Fields Too Large", "wide", true), true},
	} {
		l := term(zeros(40), at(0, 0, y.first+stats(b)))
		x := play(t, c, l)
		s := x.Terms[0]
		want(t, y.what+": how many are asked", len(s.Asked), 2-boolInt(y.closes))
		want(t, y.what+": closed", s.Lines[0].Closed, y.closes)
		want(t, y.what+": sent", strings.HasPrefix(s.Lines[0].Output, y.sent), true)
		wantTurned(t, y.what+": Closed turned", c, l, x, bad0, func(s *api.Served) { s.Lines[0].Closed = !s.Lines[0].Closed })
		wantTurned(t, y.what+": one behind it", c, l, x, found{!y.closes, 0}, func(s *api.Served) {
			if y.closes {
				s.Asked = append(s.Asked, api.Asked{Nth: 1, Point: -1, Done: -1, IsCall: true, Call: api.Call{Kind: api.CallStats}})
			}
		})
		wantTurned(t, y.what+": not sent, and one behind it", c, l, x, found{!y.closes, 0}, func(s *api.Served) {
			s.Lines[0] = api.Line{}
			s.Asked[0].Done = -1
			s.Asked = append(s.Asked[:1], api.Asked{Nth: 1, Point: -1, Done: -1, IsCall: true, Call: api.Call{Kind: api.CallStats}})
		})
		wantTurned(t, y.what+": not sent", c, l, x, fine, func(s *api.Served) {
			s.Lines[0] = api.Line{}
			s.Asked[0].Done = -1
			s.Asked = s.Asked[:1]
		})
		wantTurned(t, y.what+": not sent, but closed", c, l, x, bad0, func(s *api.Served) {
			s.Lines[0] = api.Line{Closed: true}
			s.Asked[0].Done = -1
			s.Asked = s.Asked[:1]
		})
	}
}

func TestNoRequestYet(t *testing.T) { // P29.3: bytes that are no whole request as yet
	c := config(9)
	b := c.Tenants[0]
	for _, s := range []string{"", "G", "GET /", stats(b)[:len(stats(b))-1], create(b, "ada", 9)[:len(create(b, "ada", 9))-1], strings.Repeat("x", 4095), "\r\n\r"} {
		l := term(zeros(9), at(0, 0, s), at(1, 0, ""))
		x := play(t, c, l)
		want(t, "asked", len(x.Terms[0].Asked), 0)
		for _, a := range []api.Asked{{Point: -1, Done: -1}, {Status: 400, Fate: api.FateDone}, {Point: -1, Done: -1, IsCall: true, Call: api.Call{Kind: api.CallStats}}} {
			wantTurned(t, "asked", c, l, x, bad0, func(s *api.Served) { s.Asked = []api.Asked{a} })
		}
	}
}

func TestOfOnesWithoutACall(t *testing.T) { // P29.3: Status and Answer of each refusal
	c := config(9)
	b := c.Tenants[0]
	for status, s := range map[int]string{400: "\r\n\r\n", 413: ask(b, "GET", "/", "", "Content-Length: 8193"), 431: strings.Repeat("\n", 4096), 401: ask(api.Tenant{Name: "z", Key: "z"}, "GET", "/stats", ""), 404: ask(b, "GET", "/", ""), 405: ask(b, "POST", "/stats", "")} {
		l := term(zeros(9), at(3, 0, s))
		x := play(t, c, l)
		want(t, "Asked", copied(x).Terms[0].Asked, []api.Asked{{First: 3, Point: 3, Done: 3, Status: status, Fate: api.FateDone}})
		for _, other := range []int{0, 200, 400, 401, 404, 405, 413, 431, -1} {
			wantTurned(t, "Status", c, l, x, found{other == status, 0}, func(s *api.Served) { s.Asked[0].Status = other })
		}
		wantTurned(t, "Answer", c, l, x, bad0, func(s *api.Served) { s.Asked[0].Answer = api.Answer{Status: status, Word: "request"} })
		wantTurned(t, "not sent, and another Status", c, l, x, bad0, func(s *api.Served) { s.Asked[0].Done, s.Asked[0].Status, s.Lines[0] = -1, 200, api.Line{} })
		wantTurned(t, "not sent, and an Answer", c, l, x, bad0, func(s *api.Served) { s.Asked[0].Done, s.Asked[0].Answer.Live, s.Lines[0] = -1, 1, api.Line{} })
		wantTurned(t, "not sent", c, l, x, bad0, func(s *api.Served) { s.Asked[0].Done = -1 })
		wantTurned(t, "not sent, and nothing is", c, l, x, fine, func(s *api.Served) { s.Asked[0].Done, s.Lines[0] = -1, api.Line{} })
	}
}

func TestWhichTermWasSent(t *testing.T) { // P29.3: the first one in which it does not hold, on whatever connection
	c := config(9)
	b := c.Tenants[0]
	one := term(turns(64), at(0, 0, stats(b)), at(0, 7, stats(b)))
	l := []api.Term{one, one, one}
	x := play(t, c, l...)
	for i := range 3 {
		for _, conn := range []int{0, 7, 3} {
			y := turned(x, func(x *api.Told) { x.Terms[i].Lines[conn].Output += "x" })
			wantSent(t, "a byte more", c, l, y, bad(i))
			wantSent(t, "in the last one, too", c, l, turned(y, func(x *api.Told) { x.Terms[2].Asked[0].First = -1 }), bad(i))
		}
	}
	wantSent(t, "of other arrivals", c, []api.Term{one, one, term(turns(64))}, x, bad(2))
	other := one
	other.Timing.Draws = []uint64{5}
	wantSent(t, "other draws, with no create", c, []api.Term{one, other, one}, x, fine)
	wantSent(t, "fewer steps than were done", c, []api.Term{one, one, term(nil, one.Arrivals...)}, x, fine) // which ones were done the record says
	c.Tenants[0].Key += "x"
	wantSent(t, "of another key", c, l, x, bad0)
	wantSent(t, "no terms", c, nil, api.Told{}, fine)
}

func TestSentWithoutEngine(t *testing.T) { // P29.3: a term whose Open is refused: nothing came, nothing is asked, nothing is sent
	c := config(9)
	b := c.Tenants[0]
	one := term(turns(64), at(0, 0, stats(b)))
	two := one
	two.Stop = 0
	l := []api.Term{one, two, one}
	x := play(t, c, l...)
	want(t, "Open", x.Terms[1].Open, api.ErrIO)
	for _, n := range []int{0, 7, 8, 9} {
		wantSent(t, "lines", c, l, turned(x, func(x *api.Told) { x.Terms[1].Lines = make([]api.Line, n) }), fine)
	}
	wantSent(t, "something is sent", c, l, turned(x, func(x *api.Told) { x.Terms[1].Lines[0] = x.Terms[0].Lines[0] }), bad(1))
	wantSent(t, "something is asked", c, l, turned(x, func(x *api.Told) { x.Terms[1].Asked = x.Terms[0].Asked }), bad(1))
	wantSent(t, "closed", c, l, turned(x, func(x *api.Told) { x.Terms[1].Lines[5].Closed = true }), bad(1))
}

func TestReplyThatMayNotBe(t *testing.T) { // P29.3: it has no bytes
	c := config(9)
	b := c.Tenants[0]
	l := term(zeros(9), at(0, 0, stats(b)))
	x := play(t, c, l)
	for _, status := range []int{0, -1, 100, 299, 600, 403} {
		turn := func(s *api.Served) { s.Asked[0].Answer = api.Answer{Status: status} }
		wantTurned(t, "with the bytes of another one", c, l, x, bad0, turn)
		wantTurned(t, "with none", c, l, x, fine, func(s *api.Served) {
			turn(s)
			s.Lines[0].Output = ""
		})
	}
}
