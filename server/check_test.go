package server_test

import (
	"fmt"
	"math"
	"slices"
	"strings"
	"testing"

	"atrium/api"
	"atrium/server"
)

// trial is a play that may be, but for one turn.
type trial struct {
	what string
	may  bool
	turn func(c *api.Config, x *api.Term)
}

func configTrials() []trial {
	var l []trial
	add := func(what string, may bool, turn func(c *api.Config)) {
		l = append(l, trial{what, may, func(c *api.Config, _ *api.Term) { turn(c) }})
	}
	add("as it is", true, func(c *api.Config) {})
	add("no tenants", false, func(c *api.Config) { c.Tenants = nil })
	many := func(n int) (l []api.Tenant) {
		for i := range n {
			l = append(l, api.Tenant{Name: fmt.Sprint(i), Key: "k"})
		}
		return l
	}
	add("16 tenants", true, func(c *api.Config) { c.Tenants = many(16) })
	add("17 tenants", false, func(c *api.Config) { c.Tenants = many(17) })
	add("two of a name", false, func(c *api.Config) { c.Tenants = append(c.Tenants, c.Tenants[0]) })
	add("a name", false, func(c *api.Config) { c.Tenants[0].Name = "A" })
	add("no key", false, func(c *api.Config) { c.Tenants[0].Key = "" })
	add("a quota", false, func(c *api.Config) { c.Tenants[0].Quota = -1 })
	for n, may := range map[int]bool{0: false, 1: true, 1 << 18: true, 1<<18 + 1: false} {
		add(fmt.Sprint("Mem ", n), may, func(c *api.Config) { c.Options.Mem = n })
	}
	add("Zero", false, func(c *api.Config) { c.Options.Zero = 0 })
	add("Base", false, func(c *api.Config) { c.Options.Base = 0 })
	add("Fan", false, func(c *api.Config) { c.Options.Fan = 1 })
	add("Shape", false, func(c *api.Config) { c.Options.Shape.Restart = 0 })
	for n, may := range map[int]bool{-1: false, 0: true, 1: true, 1 << 24: true, 1<<24 + 1: false} {
		add(fmt.Sprint("Capacity ", n), may, func(c *api.Config) { c.Capacity = n })
	}
	return l
}

func termTrials() []trial {
	var l []trial
	add := func(what string, may bool, turn func(x *api.Term)) {
		l = append(l, trial{what, may, func(_ *api.Config, x *api.Term) { turn(x) }})
	}
	for n, may := range map[int]bool{math.MinInt: false, -1: false, 0: true, 1: true, 4096: true, 4097: false, math.MaxInt: false} {
		add(fmt.Sprint("Steps ", n), may, func(x *api.Term) { x.Steps = n })
	}
	add("256 Arrivals", true, func(x *api.Term) { x.Arrivals = make([]api.Arrival, 256) })
	add("257 Arrivals", false, func(x *api.Term) { x.Arrivals = make([]api.Arrival, 257) })
	for n, may := range map[int]bool{math.MinInt: false, -1: false, 0: true, 9: true, math.MaxInt: true} {
		add(fmt.Sprint("an Arrival's Step ", n), may, func(x *api.Term) { x.Arrivals = append(x.Arrivals, at(n, 1, "a")) })
	}
	for n, may := range map[int]bool{math.MinInt: false, -1: false, 0: true, 7: true, 8: false, math.MaxInt: false} {
		add(fmt.Sprint("an Arrival's Conn ", n), may, func(x *api.Term) { x.Arrivals = append(x.Arrivals, at(1, n, "a")) })
	}
	for n, may := range map[int]bool{65536: true, 65537: false} {
		add(fmt.Sprint("picks ", n), may, func(x *api.Term) { x.Timing.Picks = make([]int, n) })
		add(fmt.Sprint("ticks ", n), may, func(x *api.Term) { x.Timing.Ticks = make([]int, n) })
		add(fmt.Sprint("draws ", n), may, func(x *api.Term) { x.Timing.Draws = make([]uint64, n) })
	}
	add("a pick", false, func(x *api.Term) { x.Timing.Picks = []int{0, -1} })
	add("a tick below 0", false, func(x *api.Term) { x.Timing.Ticks = []int{0, -1} })
	add("the greatest tick", true, func(x *api.Term) { x.Timing.Ticks = []int{1<<31 - 1} })
	add("a tick above it", false, func(x *api.Term) { x.Timing.Ticks = []int{1 << 31} })
	faults := func(n int) (l []api.Fault) {
		for i := range n {
			l = append(l, api.Fault{Op: api.OpRead, Nth: 100 + i, Kind: api.FaultClean})
		}
		return l
	}
	add("64 Faults", true, func(x *api.Term) { x.Faults = faults(64) })
	add("65 Faults", false, func(x *api.Term) { x.Faults = faults(65) })
	fault := func(op, nth, kind int) api.Fault { return api.Fault{Op: op, Nth: nth, Kind: kind} }
	for f, may := range map[api.Fault]bool{fault(1, 99, 1): true, fault(7, 99, 2): true, fault(0, 1, 1): false, fault(8, 1, 1): false, fault(1, 0, 1): false, fault(1, 1, 0): false, fault(1, 1, 3): false} {
		add(fmt.Sprint("a Fault ", f), may, func(x *api.Term) { x.Faults = []api.Fault{f} })
	}
	add("two Faults of one operation", false, func(x *api.Term) { x.Faults = []api.Fault{fault(1, 9, 1), fault(1, 9, 2)} })
	for _, n := range []int{math.MinInt, -1, 1 << 40, math.MaxInt} {
		add(fmt.Sprint("Stop ", n), true, func(x *api.Term) { x.Stop = n })
		add(fmt.Sprint("Dir ", n), true, func(x *api.Term) { x.Crash.Dir = n })
		add(fmt.Sprint("Keep ", n), true, func(x *api.Term) { x.Crash.Keep = []int{n, n} })
	}
	return l
}

func TestCheck(t *testing.T) { // P27.1, P27.2: each part of a play that may be, and may not
	for _, y := range append(configTrials(), termTrials()...) {
		for place := range 3 { // in the first term, in a later one, in the last one
			c, l := config(3, 9), []api.Term{{Stop: -1, Steps: 2}, {Stop: -1, Steps: 1}, {Stop: -1, Steps: 2}}
			y.turn(&c, &l[place])
			should := api.ErrServer
			if y.may {
				should = api.OK
			}
			want(t, "Check of "+y.what, server.Check(c, l), should)
			x := server.Play(c, l)
			if y.may != (x.Err != api.ErrServer) || y.may != (len(x.Terms) == 3) {
				t.Errorf("Play of %s: %+v", y.what, x)
			}
			if !y.may {
				want(t, "Play of "+y.what, x, api.Told{Err: api.ErrServer})
			}
		}
	}
}

func TestCheckTerms(t *testing.T) { // P27.1: how many terms
	for n, should := range map[int]api.Errno{0: api.OK, 1: api.OK, 8: api.OK, 9: api.ErrServer, 100: api.ErrServer} {
		l := slices.Repeat([]api.Term{{Stop: -1}}, n)
		want(t, fmt.Sprint("terms: ", n), server.Check(config(3), l), should)
		want(t, fmt.Sprint("terms: ", n), server.Play(config(3), l).Err, should)
	}
	want(t, "nothing", server.Check(api.Config{}, nil), api.ErrServer)
	want(t, "nothing", server.Play(api.Config{}, nil), api.Told{Err: api.ErrServer})
}

func TestDraw(t *testing.T) { // P27.1
	for _, x := range []struct {
		draws []uint64
		first uint64
	}{{nil, 0}, {[]uint64{}, 0}, {[]uint64{0}, 0}, {[]uint64{7, 8, 9}, 7}, {[]uint64{1<<64 - 1}, 1<<64 - 1}, {[]uint64{1<<64 - 3, 1}, 1<<64 - 3}} {
		for _, conn := range []int{0, 1, 2, 3, 7, 8, -1, math.MaxInt, math.MinInt} {
			for _, nth := range []int{0, 1, 2, 300, -1, math.MaxInt, math.MinInt} {
				want(t, fmt.Sprint("Draw ", x.draws, conn, nth), server.Draw(api.Timing{Draws: x.draws, Picks: []int{5}, Ticks: []int{6}}, conn, nth), drawOf(x.first, conn, nth))
			}
		}
	}
	want(t, "a sum that wraps", server.Draw(api.Timing{Draws: []uint64{1<<64 - 2}}, 2, 0), server.Draw(api.Timing{}, 0, 0))
	want(t, "by hand", server.Draw(api.Timing{}, 0, 0), uint64(0))                             // Mix(0) is 0
	want(t, "by hand", server.Draw(api.Timing{}, 1, 0), mix(mix(1)))                           // of the connection first
	want(t, "by hand", server.Draw(api.Timing{Draws: []uint64{5}}, 0, 1), mix(mix(5)+1))       // then of the request
	want(t, "apart", server.Draw(api.Timing{}, 1, 0) != server.Draw(api.Timing{}, 0, 1), true) // not the same
}

func TestDrawIsTaken(t *testing.T) { // P27.2: of each create by its connection and its number, of others 0
	c := config(50)
	b := c.Tenants[0]
	x := term(nil, at(0, 2, stats(b)+create(b, "ada", 9)+ask(b, "GET", "/none", "")+create(b, "eve", 9)), at(0, 5, create(b, "ada", 9)))
	x.Steps, x.Timing = 30, api.Timing{Draws: []uint64{77, 5}, Picks: append(slices.Repeat([]int{2}, 12), slices.Repeat([]int{5}, 4)...)}
	s := served(t, c, x)
	var draws []uint64
	for _, a := range s.Asked {
		draws = append(draws, a.Call.Draw)
		if a.Status == 201 {
			want(t, "the token's draw", strings.HasSuffix(a.Answer.Token, token(0, a.Call.Draw)[11:]), true)
		}
	}
	want(t, "draws", draws, []uint64{0, drawOf(77, 2, 1), 0, drawOf(77, 2, 3), drawOf(77, 5, 0)})
}
