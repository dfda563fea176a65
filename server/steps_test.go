package server_test

import (
	"fmt"
	"slices"
	"strings"
	"testing"

	"atrium/api"
)

// firstSteps is a play of the first steps of a term.
func firstSteps(t *testing.T, c api.Config, x api.Term, n int) (api.Served, []api.Kept) {
	t.Helper()
	x.Steps = n
	told := play(t, c, x)
	if told.Err != api.OK || told.Terms[0].Open != api.OK || told.Terms[0].Steps != n {
		t.Fatalf("Play: %+v", told)
	}
	return told.Terms[0], told.End
}

func TestMutationsSteps(t *testing.T) { // P27.2, P27.3: (a) to (d), the chapter's example; what is told of a request at each end of the term
	c := config(3)
	x := term(zeros(9), at(0, 0, create(c.Tenants[0], "ada", 9)))
	tok := token(1, drawOf(0, 0, 0))
	open := api.Asked{Conn: 0, Nth: 0, First: 0, Point: -1, Done: -1, IsCall: true, Call: createCall(0, "ada", 9, 0, 0)}
	determined := open
	determined.Point, determined.Status, determined.Fate = 2, 201, api.FateDone
	determined.Answer = api.Answer{Status: 201, Token: tok, Expires: 9}
	sent := determined
	sent.Done = 3
	kept := api.Kept{Sessions: []api.Session{{Token: tok, User: "ada", Data: "x", Expires: 9}}, Entries: []api.Entry{{Number: 1, Kind: api.CallCreate, Subject: tok}}}
	for n, should := range [][]api.Asked{{}, {open}, {open}, {determined}, {sent}, {sent}} {
		s, end := firstSteps(t, c, x, n)
		wantAsked(t, fmt.Sprint("behind steps: ", n), s.Asked, should...)
		out := ""
		if n > 3 {
			out = told201(tok, 9)
		}
		want(t, "sent", s.Lines, append([]api.Line{{Output: out}}, make([]api.Line, 7)...))
		if n > 2 { // it is there as soon as it was committed
			want(t, "End", end, []api.Kept{kept})
		} else {
			want(t, "End", plain(api.Told{End: end}).End, []api.Kept{{}})
		}
	}
}

func TestReadsSteps(t *testing.T) { // P27.2, P27.3: one that is ready is determined as it is prepared
	c := config(3)
	x := term(zeros(9), at(0, 0, stats(c.Tenants[0])))
	open := api.Asked{Point: -1, Done: -1, IsCall: true, Call: api.Call{Kind: api.CallStats}}
	determined := open
	determined.Point, determined.Status, determined.Fate = 1, 200, api.FateDone
	determined.Answer = api.Answer{Status: 200, Next: 1}
	sent := determined
	sent.Done = 2
	for n, should := range [][]api.Asked{{}, {open}, {determined}, {sent}, {sent}} {
		s, _ := firstSteps(t, c, x, n)
		wantAsked(t, fmt.Sprint("behind steps: ", n), s.Asked, should...)
		out := ""
		if n > 2 {
			out = told200(`{"entries":0,"live":0,"next":1,"users":0}`)
		}
		want(t, "sent", s.Lines[0], api.Line{Output: out})
	}
}

func TestRefusalsSteps(t *testing.T) { // P27.2, P27.3: one without a call is taken and answered at one step
	c := config(3)
	b := c.Tenants[0]
	stranger := api.Tenant{Name: "b", Key: "none"}
	for _, y := range []struct {
		bytes  string
		status int
		reply  string
		closed bool
	}{
		{stats(stranger), 401, refusal("401 Unauthorized", "credential", false), false},
		{ask(b, "GET", "/nothing", ""), 404, refusal("404 Not Found", "route", false), false},
		{ask(b, "PUT", "/stats", ""), 405, refusal("405 Method Not Allowed", "method", false), false},
		{ask(b, "GET", "/%", ""), 400, refusal("400 Bad Request", "target", true), true},
		{ask(b, "GET", "/me", ""), 401, refusal("401 Unauthorized", "cookie", false), false},
		{ask(b, "POST", "/sessions", "{}"), 400, refusal("400 Bad Request", "body", true), true},
		{ask(b, "GET", "/stats", "x"), 400, refusal("400 Bad Request", "body", true), true},
		{"nonsense\r\n\r\n", 400, refusal("400 Bad Request", "request", true), true},
		{ask(b, "GET", "/nothing", "", closing), 404, refusal("404 Not Found", "route", true), true},
	} {
		x := term([]int{3, 3, 5, 3}, at(1, 5, y.bytes))
		for n := range 5 {
			s, _ := firstSteps(t, c, x, n)
			if n < 3 {
				want(t, "nothing is taken", len(s.Asked), 0)
				continue
			}
			wantAsked(t, y.reply, s.Asked, api.Asked{Conn: 5, First: 1, Point: 2, Done: 2, Status: y.status, Fate: api.FateDone})
			want(t, "sent", s.Lines[5], api.Line{Output: y.reply, Closed: y.closed})
		}
	}
}

func TestCallsThatAreRefused(t *testing.T) { // P27.2: 400 of the model closes, 404 and 429 do not
	c := config(0)
	b := c.Tenants[0]
	for _, y := range []struct {
		bytes  string
		reply  string
		closed bool
	}{
		{create(b, "ada", 0), refusal("400 Bad Request", "bad", true), true},
		{create(b, "", 9), refusal("400 Bad Request", "bad", true), true},
		{create(b, "ada", 9), refusal("429 Too Many Requests", "quota", false), false},
		{ask(b, "GET", "/sessions/x", ""), refusal("404 Not Found", "missing", false), false},
		{ask(b, "GET", "/sessions/x", "", "connection:  CLOSE "), refusal("404 Not Found", "missing", true), true},
	} {
		s := served(t, c, term(zeros(9), at(0, 0, y.bytes+stats(b)), at(5, 0, stats(b))))
		if y.closed {
			want(t, "sent", s.Lines[0], api.Line{Output: y.reply, Closed: true})
			want(t, "what comes behind is passed over", len(s.Asked), 1)
		} else {
			want(t, "sent", s.Lines[0], api.Line{Output: y.reply + strings.Repeat(told200(`{"entries":0,"live":0,"next":1,"users":0}`), 2)})
		}
	}
}

func TestByteByByte(t *testing.T) { // P27.2, P27.3: First is the first byte's, nothing is told till the last one came
	c := config(3)
	s := create(c.Tenants[0], "ada", 9)
	var l []api.Arrival
	for i := range len(s) {
		l = append(l, at(2+i, 4, s[i:i+1]))
	}
	picks := slices.Repeat([]int{4}, len(s)+8)
	for n := range len(s) + 8 {
		got, _ := firstSteps(t, c, term(picks, l...), n)
		if last := 1 + len(s); n <= last {
			want(t, "nothing is taken", len(got.Asked), 0)
			want(t, "nothing is sent", got.Lines[4].Output, "")
		} else {
			should := short{4, 0, 2, -1, -1, 0, api.FateOpen}
			if n > last+2 {
				should.Point, should.Status, should.Fate = last+2, 201, api.FateDone
			}
			if n > last+3 {
				should.Done = last + 3
			}
			want(t, fmt.Sprint("behind steps: ", n), shorts(got.Asked), []short{should})
		}
	}
	x := term(picks, at(3, 4, s[:9]), at(3, 4, ""), at(7, 4, s[9:20]), at(9, 4, s[20:]+s[:5]), at(12, 4, s[5:]))
	want(t, "in pieces", shorts(served(t, c, x).Asked), []short{{4, 0, 3, 11, 12, 201, api.FateDone}, {4, 1, 9, 15, 16, 201, api.FateDone}})
	x = term(picks, at(1, 4, ""), at(2, 4, ""), at(3, 4, s))
	want(t, "empty pieces", shorts(served(t, c, x).Asked), []short{{4, 0, 3, 5, 6, 201, api.FateDone}})
}

func TestSeveralAtOnce(t *testing.T) { // P27.2, P27.8: in one piece, one behind the other
	c := config(9)
	b := c.Tenants[0]
	empty := told200(`{"entries":0,"live":0,"next":1,"users":0}`)
	tok := func(n, nth int) string { return token(uint64(n), drawOf(0, 0, nth)) }
	s := served(t, c, term(zeros(20), at(0, 0, create(b, "ada", 9)+create(b, "eve", 8))))
	want(t, "two", shorts(s.Asked), []short{{0, 0, 0, 2, 3, 201, 1}, {0, 1, 0, 6, 7, 201, 1}})
	want(t, "two", s.Lines[0], api.Line{Output: told201(tok(1, 0), 9) + told201(tok(2, 1), 8)})
	s = served(t, c, term(zeros(20), at(0, 0, stats(b)+ask(b, "PUT", "/stats", "")+create(b, "eve", 8))))
	want(t, "three, one of them refused", shorts(s.Asked), []short{{0, 0, 0, 1, 2, 200, 1}, {0, 1, 0, 3, 3, 405, 1}, {0, 2, 0, 6, 7, 201, 1}})
	want(t, "three, one of them refused", s.Lines[0], api.Line{Output: empty + refusal("405 Method Not Allowed", "method", false) + told201(tok(1, 2), 8)})
	s = served(t, c, term(zeros(20), at(0, 0, stats(b)+ask(b, "GET", "/%", "")+create(b, "eve", 8))))
	want(t, "one that closes", shorts(s.Asked), []short{{0, 0, 0, 1, 2, 200, 1}, {0, 1, 0, 3, 3, 400, 1}})
	want(t, "one that closes", s.Lines[0], api.Line{Output: empty + refusal("400 Bad Request", "target", true), Closed: true})
	s = served(t, c, term(zeros(20), at(0, 0, stats(b)+stats(b)[:30]), at(8, 0, stats(b)[30:]+stats(b))))
	want(t, "one and a piece", shorts(s.Asked), []short{{0, 0, 0, 1, 2, 200, 1}, {0, 1, 0, 9, 10, 200, 1}, {0, 2, 8, 12, 13, 200, 1}})
}

func TestArrivals(t *testing.T) { // P27.2: at one step, out of their order, behind the term's steps, onto a connection that is closed
	c := config(9)
	b := c.Tenants[0]
	two := stats(b)
	s := served(t, c, term(zeros(12), at(4, 0, two[20:30]), at(1, 0, two[:20]), at(9, 0, "x"), at(4, 0, two[30:])))
	want(t, "out of their order", shorts(s.Asked), []short{{0, 0, 1, 5, 6, 200, 1}})
	s = served(t, c, term(zeros(12), at(2, 0, two), at(2, 1, two), at(2, 0, ask(b, "GET", "/x", "")), at(2, 7, two)))
	want(t, "at one step", shorts(s.Asked), []short{{0, 0, 2, 3, 4, 200, 1}, {0, 1, 2, 5, 5, 404, 1}})
	s = served(t, c, term([]int{1, 1, 7, 1, 7, 7}, at(0, 7, two), at(0, 1, two)))
	want(t, "in the order in which they were taken", shorts(s.Asked), []short{{1, 0, 0, 1, 3, 200, 1}, {7, 0, 0, 4, 5, 200, 1}})
	for step, n := range map[int]int{11: 1, 12: 0, 13: 0, 5000: 0} {
		s = served(t, c, term(zeros(12), at(step, 0, ask(b, "GET", "/x", ""))))
		want(t, "at the end", len(s.Asked), n)
	}
	s = served(t, c, term(zeros(12), at(0, 0, ask(b, "GET", "/stats", "", closing)), at(2, 0, two), at(3, 0, two), at(8, 0, "x\r\n\r\n")))
	want(t, "onto one that is closed", shorts(s.Asked), []short{{0, 0, 0, 1, 2, 200, 1}})
	want(t, "onto one that is closed", s.Lines[0].Closed, true)
	want(t, "its reply", strings.Contains(s.Lines[0].Output, "\r\nConnection: close\r\n"), true)
}

func TestNoRequests(t *testing.T) { // P27.2, P27.8: ErrNone, ErrHead, ErrBig, ErrWide, and what comes behind
	c := config(9)
	b := c.Tenants[0]
	wide := "GET /" + strings.Repeat("a", 4091)
	big := "GET /stats HTTP/1.1\r\nHost: x\r\nContent-Length: 8193\r\n\r\n"
	for _, y := range []struct {
		bytes  string
		status int
		reply  string
	}{
		{"\r\n\r\n", 400, refusal("400 Bad Request", "request", true)},
		{"GET /stats HTTP/1.1\r\n\r\n", 400, refusal("400 Bad Request", "request", true)},
		{"\xff\x00\r\n\r\n", 400, refusal("400 Bad Request", "request", true)},
		{big, 413, refusal("413 Content Too Large", "large", true)},
		{wide, 431, refusal("431 Request Header Fields Too Large", "wide", true)},
	} {
		for _, behind := range []string{"", stats(b), "\r\n\r\n", strings.Repeat("z", 9000)} {
			s := served(t, c, term(zeros(12), at(0, 0, y.bytes+behind), at(3, 0, stats(b)), at(5, 1, stats(b))))
			want(t, "asked", shorts(s.Asked), []short{{0, 0, 0, 0, 0, y.status, 1}})
			want(t, "sent", s.Lines[0], api.Line{Output: y.reply, Closed: true})
		}
		s := served(t, c, term(zeros(12), at(0, 0, stats(b)+y.bytes[:len(y.bytes)-1]), at(6, 0, y.bytes[len(y.bytes)-1:]+stats(b))))
		want(t, "behind one, in pieces", shorts(s.Asked), []short{{0, 0, 0, 1, 2, 200, 1}, {0, 1, 0, 6, 6, y.status, 1}})
		want(t, "behind one, in pieces", s.Lines[0], api.Line{Output: told200(`{"entries":0,"live":0,"next":1,"users":0}`) + y.reply, Closed: true})
	}
	for _, bytes := range []string{"", "\r", "GET", wide[:4095], strings.Replace(big, "8193", "8192", 1), strings.Replace(big, "8193", "8192", 1) + strings.Repeat("x", 8191), stats(b)[:len(stats(b))-1]} {
		s := served(t, c, term(zeros(12), at(0, 0, bytes)))
		want(t, "more must come", len(s.Asked), 0)
		want(t, "more must come", s.Lines[0], api.Line{})
	}
	s := served(t, c, term(zeros(12), at(0, 0, strings.Replace(big, "8193", "8192", 1)+strings.Repeat("x", 8191)), at(4, 0, "x")))
	want(t, "a body as large as may be", shorts(s.Asked), []short{{0, 0, 0, 4, 4, 401, 1}})
}

func TestNothingComes(t *testing.T) { // P27.2: terms of no steps, steps of nothing, no terms
	c := config(3, 9)
	told := play(t, c)
	want(t, "no terms", plain(told), api.Told{End: make([]api.Kept, 2)})
	told = play(t, c, api.Term{Stop: -1}, api.Term{Stop: -1, Arrivals: []api.Arrival{at(0, 0, stats(c.Tenants[0]))}, Timing: api.Timing{Ticks: []int{5}}})
	nothing := api.Served{Lines: make([]api.Line, 8)}
	want(t, "no steps", plain(told), api.Told{Terms: []api.Served{nothing, nothing}, End: make([]api.Kept, 2)})
	told = play(t, c, api.Term{Stop: -1, Steps: 4096, Timing: api.Timing{Ticks: []int{0, 3, 0, 4}, Picks: []int{0, 9, 8, 10}}})
	nothing.Steps, nothing.Clock = 4096, 7
	want(t, "nothing comes", plain(told), api.Told{Terms: []api.Served{nothing}, End: make([]api.Kept, 2)})
}

func TestClock(t *testing.T) { // P27.2: ahead of each step, from term to term
	c := config(9)
	b := c.Tenants[0]
	one := term(zeros(5), at(0, 0, create(b, "ada", 100)))
	one.Timing.Ticks = []int{1, 10, 100, 1000, 10000, 100000}
	two := term([]int{3, 3, 3, 3, 3, 3}, at(0, 3, create(b, "ada", 100)))
	two.Timing.Ticks = []int{7, 0, 5}
	none := api.Term{Stop: 0, Steps: 9, Timing: api.Timing{Ticks: []int{1}}}
	told := play(t, c, one, none, two, two)
	var clocks []uint64
	var ticks []uint64
	for _, s := range told.Terms {
		clocks = append(clocks, s.Clock)
		for _, a := range s.Asked {
			ticks = append(ticks, a.Tick)
			want(t, "Expires", a.Answer.Expires, a.Tick+100)
		}
	}
	want(t, "Clock", clocks, []uint64{11111, 11111, 11123, 11135})
	want(t, "Tick", ticks, []uint64{11, 11118, 11130})
	want(t, "who lives at the end", len(told.End[0].Sessions), 2)
	var at []uint64
	for _, x := range told.End[0].Entries {
		at = append(at, x.Tick)
	}
	want(t, "the entries", at, []uint64{11, 11118, 11130})
	last := api.Term{Stop: -1, Steps: 4096, Timing: api.Timing{Ticks: slices.Repeat([]int{1<<31 - 1}, 4096)}}
	told = play(t, c, slices.Repeat([]api.Term{last}, 8)...)
	want(t, "how far it goes", told.Terms[7].Clock, uint64(8*4096*(1<<31-1)))
}

func TestPicks(t *testing.T) { // P27.2: eleven tasks, in their order, all of them ready all the time
	c := config(9)
	b := c.Tenants[0]
	for conn := range 8 {
		for _, by := range []int{0, 11, 11 * 1000} {
			s := served(t, c, term(slices.Repeat([]int{conn + by}, 4), at(0, conn, create(b, "ada", 9))))
			want(t, "its steps", shorts(s.Asked), []short{{conn, 0, 0, 2, 3, 201, 1}})
			s = served(t, c, term(slices.Repeat([]int{conn + by + 1}, 4), at(0, conn, create(b, "ada", 9))))
			want(t, "another one's steps", len(s.Asked), 0)
		}
	}
	s := served(t, c, term([]int{8, 0, 9, 0, 10, 0, 21, 0}, at(0, 0, create(b, "ada", 9))))
	want(t, "with others between", shorts(s.Asked), []short{{0, 0, 0, 5, 7, 201, 1}})
	x := term([]int{2, 2}, at(0, 2, stats(b)), at(0, 0, stats(b)))
	x.Steps = 5
	s = served(t, c, x)
	want(t, "behind the last pick the first one goes", shorts(s.Asked), []short{{2, 0, 0, 1, -1, 200, 1}, {0, 0, 0, 3, 4, 200, 1}})
}

func TestToldIsNew(t *testing.T) { // R3, R4: what is told shares nothing, what is handed in stays
	c := config(9)
	b := c.Tenants[0]
	x := term(zeros(40), at(0, 0, create(b, "ada", 9)+ask(b, "GET", "/audit", "")+ask(b, "GET", "/users/ada/sessions", "")))
	x.Crash.Keep = []int{-1, 2}
	ahead := fmt.Sprintf("%+v %+v", c, x)
	first := plain(play(t, c, x, x))
	should := fmt.Sprintf("%+v", first)
	second := plain(play(t, c, x, x))
	for i := range first.Terms {
		s := &first.Terms[i]
		s.Lines[0].Output = "other"
		for j := range s.Asked {
			for k := range s.Asked[j].Answer.Entries {
				s.Asked[j].Answer.Entries[k].Number = 99
			}
			for k := range s.Asked[j].Answer.Tokens {
				s.Asked[j].Answer.Tokens[k] = "other"
			}
			s.Asked[j].Status = 99
		}
	}
	first.End[0].Sessions, first.End[0].Entries[0].Number = nil, 99
	want(t, "told again", fmt.Sprintf("%+v", second), should)
	want(t, "what was handed in", fmt.Sprintf("%+v %+v", c, x), ahead)
}
