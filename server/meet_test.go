package server_test

import (
	"fmt"
	"slices"
	"strings"
	"testing"

	"atrium/api"
)

// clocked is a term with ticks.
func clocked(ticks []int, x api.Term) api.Term {
	x.Timing.Ticks = ticks
	return x
}

func TestConflict(t *testing.T) { // P27.2: two creates at once: the second one is prepared anew, and told what holds then
	b := some(1)[0]
	for quota, status := range map[int]int{1: 429, 2: 201} {
		c := config(quota)
		l := []api.Arrival{at(0, 0, create(b, "ada", 99)), at(0, 1, create(b, "eve", 99))}
		picks := []int{0, 1, 0, 1, 0, 1, 1, 1, 0, 1, 1}
		s := served(t, c, clocked([]int{0, 0, 1, 2, 4, 8, 16, 32, 64}, term(picks, l...)))
		should := []short{{0, 0, 0, 4, 8, 201, 1}, {1, 0, 0, 7, 9, status, 1}}
		tick := uint64(31)
		if status == 429 { // it is ready as soon as it is prepared
			should[1].Point, should[1].Done = 6, 7
		}
		want(t, "asked", shorts(s.Asked), should)
		want(t, "the first one's tick", s.Asked[0].Tick, 1)
		want(t, "the second one's tick", s.Asked[1].Tick, tick)
		open := served(t, c, term(picks[:6], l...)).Asked[1]
		wantAsked(t, "behind the conflict", []api.Asked{open}, api.Asked{Conn: 1, Point: -1, Done: -1, IsCall: true, Call: createCall(0, "eve", 99, 1, 0)})
	}
}

func TestConflictsAgain(t *testing.T) { // P27.2, P27.7: one that meets others again and again
	c := config(50)
	b := c.Tenants[0]
	l := []api.Arrival{at(0, 7, create(b, "eve", 9))}
	picks := []int{7, 7} // prepared
	for conn := range 7 {
		l = append(l, at(0, conn, create(b, "ada", 9)))
		picks = append(picks, conn, conn, conn, conn, 7, 7) // commits; the last one meets it, and is prepared anew
	}
	picks = append(picks, 7, 7)
	s := served(t, c, term(picks, l...))
	want(t, "the last one", shorts(s.Asked)[0], short{7, 0, 0, len(picks) - 2, len(picks) - 1, 201, 1})
	want(t, "its token", s.Asked[0].Answer.Token, token(8, drawOf(0, 7, 0)))
	picks, l = nil, nil // all at once: each round lets one through
	for conn := range 8 {
		l = append(l, at(0, conn, create(b, "ada", 9)))
	}
	all := []int{0, 1, 2, 3, 4, 5, 6, 7}
	for range 30 {
		picks = append(picks, all...)
	}
	s = served(t, c, term(picks, l...))
	for i, a := range s.Asked {
		want(t, "all at once", shorts(s.Asked)[i], short{i, 0, 0, 8*(2+2*i) + i, 8*(3+2*i) + i, 201, 1})
		want(t, "its token", a.Answer.Token, token(uint64(i+1), drawOf(0, i, 0)))
	}
}

func TestTwoTenants(t *testing.T) { // P27.2, P27.6: those of two tenants do not meet
	c := config(1, 1)
	l := []api.Arrival{at(0, 0, create(c.Tenants[0], "ada", 9)), at(0, 1, create(c.Tenants[1], "ada", 9))}
	s := served(t, c, term([]int{0, 1, 0, 1, 0, 1, 0, 1}, l...))
	want(t, "asked", shorts(s.Asked), []short{{0, 0, 0, 4, 6, 201, 1}, {1, 0, 0, 5, 7, 201, 1}})
	want(t, "tokens", []string{s.Asked[0].Answer.Token, s.Asked[1].Answer.Token}, []string{token(1, drawOf(0, 0, 0)), token(1, drawOf(0, 1, 0))})
	want(t, "whose", []int{s.Asked[0].Call.Tenant, s.Asked[1].Call.Tenant}, []int{0, 1})
}

func TestReadsMeetNothing(t *testing.T) { // P27.2: what is ready is told, whoever commits meanwhile
	c := config(9)
	b := c.Tenants[0]
	l := []api.Arrival{at(0, 0, create(b, "ada", 9)), at(0, 1, stats(b)), at(0, 2, stats(b)), at(0, 3, create(b, "eve", 0))}
	s := served(t, c, term([]int{0, 0, 1, 1, 2, 3, 3, 0, 2, 1, 2, 3, 0}, l...))
	want(t, "asked", shorts(s.Asked), []short{{0, 0, 0, 7, 12, 201, 1}, {1, 0, 0, 3, 9, 200, 1}, {2, 0, 0, 8, 10, 200, 1}, {3, 0, 0, 6, 11, 400, 1}})
	want(t, "what each saw", []int{s.Asked[1].Answer.Live, s.Asked[2].Answer.Live}, []int{0, 1})
}

// touch is a request for a later end, of the first session of a connection.
func touch(x api.Tenant, nth uint64, conn, request int) string {
	return ask(x, "POST", "/sessions/"+token(nth, drawOf(0, conn, request))+"/touch", `{"ttl":50}`)
}

func TestSweeps(t *testing.T) { // P27.2: a session of each tenant a step, at the clock: a touch that was prepared ahead of it meets it
	c := config(9, 9)
	b, a := c.Tenants[0], c.Tenants[1]
	l := []api.Arrival{
		at(0, 0, create(b, "ada", 5)), at(0, 1, create(a, "ada", 5)), // at tick 0
		at(8, 0, touch(b, 1, 0, 0)), at(8, 1, touch(a, 1, 1, 0)), // prepared at tick 4
		at(8, 2, touch(b, 1, 0, 0)),
	}
	begin := []int{0, 0, 0, 0, 1, 1, 1, 1, 0, 1, 2, 0, 1, 2}
	ticks := append(make([]int, 11), 4, 0, 0)
	for _, y := range []struct {
		what   string
		tick   int
		pick   int
		status int
		swept  int
	}{{"swept", 2, sweeps, 404, 2}, {"swept just at its end", 1, sweeps, 404, 2}, {"not yet", 0, sweeps, 200, 0}, {"nobody sweeps", 2, 7, 200, 0}, {"laid down", 2, laysDown, 200, 0}, {"merged", 2, merges, 200, 0}} {
		// the step in the middle, then both commit, are prepared anew perhaps, and send
		x := clocked(append(slices.Clone(ticks), y.tick), term(append(slices.Clone(begin), y.pick, 0, 1, 0, 1, 0, 1), l...))
		told := play(t, c, x)
		_, swept := playAgain(c, []api.Term{x})
		want(t, y.what+": how many were swept", len(swept), y.swept)
		asked := told.Terms[0].Asked
		for i, conn := range []int{0, 1} {
			should := short{conn, 1, 8, 15 + i, 17 + i, 200, 1}
			tick := uint64(4)
			if y.status == 404 {
				should.Point, should.Done, should.Status = 17+i, 19+i, 404
				tick += uint64(y.tick)
			}
			want(t, y.what, shorts(asked)[2+i], should)
			want(t, y.what+": its tick", asked[2+i].Tick, tick)
		}
		want(t, y.what+": who lives", len(told.End[0].Sessions), (404-y.status)/204)
	}
}

func TestSweepsOneATime(t *testing.T) { // P27.2: of two that expired the first one goes first
	c := config(9)
	b := c.Tenants[0]
	l := []api.Arrival{at(0, 0, create(b, "ada", 5)+create(b, "ada", 4)), at(8, 0, touch(b, 1, 0, 0)), at(8, 1, touch(b, 2, 0, 1)), at(8, 2, stats(b))}
	for n := range 4 {
		picks := append(zeros(8), 0, 1, 0, 1) // both are prepared
		ticks := append(make([]int, 12), 9)
		picks = append(picks, 2) // at tick 9
		for range n {
			picks = append(picks, sweeps)
		}
		picks = append(picks, 1, 1, 1, 1)
		x := clocked(ticks, term(picks, l...))
		_, swept := playAgain(c, []api.Term{x})
		want(t, fmt.Sprint("how many were swept in steps: ", n), len(swept), min(n, 2))
		s := served(t, c, x)
		status := 200 // of the second session, whose end comes first
		if n > 0 {
			status = 404
		}
		want(t, fmt.Sprint("of the second session, behind sweeps: ", n), s.Asked[3].Status, status)
		x.Timing.Picks = append(picks[:len(picks)-4:len(picks)-4], 0, 0, 0, 0)
		status = 200
		if n > 1 {
			status = 404
		}
		want(t, fmt.Sprint("of the first session, behind sweeps: ", n), served(t, c, x).Asked[2].Status, status)
	}
}

// fails is a term in which just one operation fails.
func fails(op, nth, kind int, x api.Term) api.Term {
	x.Faults = []api.Fault{{Op: op, Nth: nth, Kind: kind}}
	return x
}

func TestSweepRefused(t *testing.T) { // P27.2: it is passed over; the calls behind it are told
	c := config(9, 9)
	b, a := c.Tenants[0], c.Tenants[1]
	l := []api.Arrival{at(0, 0, create(b, "ada", 5)), at(0, 1, create(a, "ada", 5)), at(9, 0, stats(b)+create(b, "eve", 9)), at(9, 1, create(a, "eve", 9))}
	picks := []int{0, 0, 0, 0, 1, 1, 1, 1, sweeps, sweeps, 0, 0, 0, 0, 0, 0, 0, 1, 1, 1, 1}
	x := clocked(append(make([]int, 8), 9), term(picks, l...))
	met := 0
	for _, op := range []int{api.OpAppend, api.OpSync} {
		for nth := 1; nth < 12; nth++ {
			told := play(t, c, fails(op, nth, api.FaultClean, x), term(zeros(2)))
			asked := told.Terms[0].Asked
			if told.Terms[0].Open != api.OK || asked[0].Status != 201 || asked[1].Status != 201 || asked[3].Fate != api.FateNone {
				continue
			}
			met++
			want(t, "asked", shorts(asked)[2:], []short{{0, 1, 9, 11, 12, 200, 1}, {0, 2, 9, 15, 16, 500, 3}, {1, 1, 9, 19, 20, 500, 3}})
			want(t, "Steps", told.Terms[0].Steps, len(picks))
			want(t, "the next opening", told.Terms[1].Open, api.OK)
		}
	}
	want(t, "how often a sweep was refused", met, 4) // an Append and a Sync of each tenant's
}

func TestSweepWithoutRoom(t *testing.T) { // P27.2: what has no room is passed over, and the tenant behind it has its turn at the same step
	c := config(9, 9)
	b, a := c.Tenants[0], c.Tenants[1]
	l := []api.Arrival{
		at(0, 0, create(b, strings.Repeat("ada", 20), 5)), at(0, 1, create(a, "a", 5)), // its records are shorter
		at(8, 0, touch(b, 1, 0, 0)), at(8, 1, touch(a, 1, 1, 0)), // prepared at tick 4
	}
	picks := []int{0, 0, 0, 0, 1, 1, 1, 1, 0, 1, 0, 1, sweeps, 0, 1, 0, 1, 0, 1}
	x := clocked([]int{0, 0, 0, 0, 0, 0, 0, 0, 0, 0, 4, 0, 2}, term(picks, l...))
	met := map[string]int{}
	for capacity := 300; capacity < 1000; capacity++ {
		c.Capacity = capacity
		var s string
		for _, y := range play(t, c, x).Terms[0].Asked {
			s += fmt.Sprint(y.Status, " ")
		}
		met[s]++
	}
	for _, s := range []string{"201 201 507 507 ", "201 201 507 404 ", "201 201 404 404 "} {
		if met[s] == 0 {
			t.Errorf("%s was not met, but %v", s, met)
		}
	}
}

// flushed is a play in which the second create freezes what the first one wrote, some steps come then, and a third create.
func flushed(c api.Config, between ...int) api.Term {
	b := c.Tenants[0]
	picks := append(append(zeros(8), between...), 0, 0, 0, 0)
	return term(picks, at(0, 0, create(b, "ada", 99)+create(b, "ada", 99)+create(b, "eve", 99)))
}

// thirdFails is by which operations of a kind that fail (the first one of each, from 1 on) the third create is told 500, though both ahead of it were told 201.
func thirdFails(t *testing.T, c api.Config, op int, x api.Term) []int {
	t.Helper()
	var l []int
	for nth := 1; nth < 14; nth++ {
		told := play(t, c, fails(op, nth, api.FaultClean, x))
		if s := told.Terms[0]; s.Open == api.OK && s.Asked[0].Status == 201 && s.Asked[1].Status == 201 && s.Asked[2].Fate == api.FateNone {
			want(t, "told 500", s.Asked[2].Status, 500)
			l = append(l, nth)
		}
	}
	return l
}

func TestLaysDownAndMerges(t *testing.T) { // P27.2: with something to do, and with nothing: a table's file that can't be made stops the engine
	c := config(9)
	c.Options.Mem = 1
	for what, y := range map[string]struct {
		between []int
		files   int // how many are made
	}{
		"nothing":                {nil, 0},
		"others":                 {[]int{0, 7, sweeps}, 0},
		"laid down":              {[]int{laysDown}, 1},
		"laid down once":         {[]int{laysDown, laysDown, laysDown}, 1},
		"nothing to merge":       {[]int{merges, merges}, 0},
		"merged ahead":           {[]int{merges, laysDown}, 1},
		"laid down and merged":   {[]int{laysDown, merges}, 2},
		"merged once":            {[]int{laysDown, merges, merges, laysDown}, 2},
		"of the tasks' own pick": {[]int{laysDown + tasks, merges + 11*tasks}, 2},
	} {
		picked := slices.Clone(y.between)
		for i, n := range picked { // the first connection has the third create: its steps are not these
			if n == 0 {
				picked[i] = 1
			}
		}
		l := thirdFails(t, c, api.OpCreate, flushed(c, picked...))
		want(t, what+": how many files are made", len(l), y.files)
	}
	c.Options.Mem = 1 << 18
	want(t, "nothing to lay down", len(thirdFails(t, c, api.OpCreate, flushed(c, laysDown, merges))), 0)
}
