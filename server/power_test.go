package server_test

import (
	"fmt"
	"math"
	"slices"
	"testing"

	"atrium/api"
)

// rich is a term in which all is done: creates, a touch, a revoke, reads; laying down, merging, sweeping; of two tenants.
func rich(c api.Config) api.Term {
	b, a := c.Tenants[0], c.Tenants[1]
	var picks []int
	for i := range 22 {
		picks = append(picks, 0, 1, 0, 1, []int{laysDown, merges, sweeps, 0}[i%4])
	}
	x := term(picks,
		at(0, 0, create(b, "ada", 99)+create(b, "ada", 5)+create(b, "eve", 99)+touch(b, 1, 0, 0)+stats(b)+ask(b, "DELETE", "/users/ada/sessions", "")),
		at(3, 1, create(a, "ada", 7)+create(a, "ada", 99)+ask(a, "GET", "/audit", "")+ask(a, "DELETE", "/sessions", "")+create(a, "bob", 9)),
	)
	x.Timing.Ticks = slices.Repeat([]int{0, 0, 0, 1}, 30)
	return x
}

// crashes is what a crash may keep: fewer and more files than there are, below 0, above what is pending.
func crashes() []api.Crash {
	return []api.Crash{
		{},
		{Dir: 1 << 40, Keep: slices.Repeat([]int{math.MaxInt}, 40)},
		{Dir: math.MaxInt, Keep: []int{-1, 5}},
		{Dir: -7, Keep: slices.Repeat([]int{7, -7}, 10)},
		{Dir: 1, Keep: []int{0, 0, 0, 1 << 20}},
		{Dir: 3, Keep: []int{90, 80, 70, 60, 50, 40}},
	}
}

func TestStopAnywhere(t *testing.T) { // P27.2 to P27.5: the power goes at each operation of a play, whatever persists
	c := config(9, 9)
	c.Options.Mem = 300
	x := rich(c)
	whole := play(t, c, x).Terms[0]
	want(t, "each is answered", whole.Asked[len(whole.Asked)-1].Done >= 0, true)
	next := term(zeros(9), at(0, 0, stats(c.Tenants[0])+create(c.Tenants[0], "joe", 9)))
	of, steps := map[int]int{}, 0
	for stop := 0; ; stop++ {
		var first api.Served
		for i, crash := range crashes() {
			x.Stop, x.Crash = stop, crash
			told := play(t, c, x, next)
			s := told.Terms[0]
			if i == 0 {
				first = s
			}
			want(t, "it hangs on no crash", plain(api.Told{Terms: []api.Served{s}}), plain(api.Told{Terms: []api.Served{first}}))
			want(t, "the next opening", told.Terms[1].Open, api.OK)
			for _, a := range s.Asked {
				of[a.Fate]++
				if a.Fate == api.FateUnsure {
					want(t, "its last step", []int{a.Point, a.Done}, []int{s.Steps - 1, -1})
				}
			}
		}
		if first.Steps < steps {
			t.Errorf("Stop %d: %d steps, with one less %d", stop, first.Steps, steps)
		}
		steps = first.Steps
		if stop < 5 {
			want(t, "Open without power", first.Open, api.ErrIO)
		}
		if first.Steps == x.Steps {
			want(t, "as without a Stop", plain(api.Told{Terms: []api.Served{first}}), plain(api.Told{Terms: []api.Served{whole}}))
			if stop < 80 {
				t.Errorf("%d operations", stop)
			}
			break
		}
		clock := uint64(0)
		for _, n := range x.Timing.Ticks[:steps] {
			clock += uint64(n)
		}
		want(t, "Clock", first.Clock, clock)
	}
	hasAll(t, "fates", of, 60, api.FateOpen, api.FateDone, api.FateUnsure)
}

func TestStopInOpening(t *testing.T) { // P27.2, P27.5: also in an opening behind others
	c := config(9, 9)
	c.Options.Mem = 300
	b := c.Tenants[0]
	one := rich(c)
	one.Stop = 60 // within something
	next := term(zeros(9), at(0, 0, stats(b)+create(b, "joe", 99)))
	refused, opened := 0, 0
	for stop := range 40 {
		for _, crash := range crashes() {
			one.Crash = crash
			two := next
			two.Stop, two.Crash = stop, crash
			told := play(t, c, one, two, next)
			want(t, "the next opening", told.Terms[2].Open, api.OK)
			if s := told.Terms[1]; s.Open != api.OK {
				want(t, "Open", s.Open, api.ErrIO)
				refused++
			} else {
				opened++
			}
		}
	}
	if refused < 30 || opened < 30 {
		t.Errorf("%d, %d", refused, opened)
	}
}

func TestNoPowerAtFirst(t *testing.T) { // P27.2: the power that goes with the last operation of an opening: one step is done, which changes nothing that lasts
	c := config(9)
	b := c.Tenants[0]
	x := term(zeros(9), at(0, 0, ask(b, "GET", "/none", "")+stats(b)))
	ones := 0
	for stop := range 20 {
		x.Stop = stop
		told := play(t, c, x)
		s := told.Terms[0]
		if s.Open == api.OK && s.Steps < 9 {
			ones++
			want(t, "Steps", s.Steps, 1)
			want(t, "asked", shorts(s.Asked), []short{{0, 0, 0, 0, 0, 404, 1}})
		}
		x.Steps = 0
		want(t, "no steps", play(t, c, x).Terms[0].Steps, 0)
		x.Steps = 9
	}
	if ones == 0 {
		t.Error("it was not met")
	}
	x.Stop = -1
	for _, n := range []int{-1, -9, math.MinInt, math.MaxInt} {
		x.Stop = n
		want(t, "no Stop", play(t, c, x).Terms[0].Steps, 9)
	}
}

func TestUnsure(t *testing.T) { // P27.3: the power that goes at each operation of a commit: it is told 201, and may be found
	c := config(9)
	c.Options.Mem = 1
	b := c.Tenants[0]
	for conn := range 2 { // the second create comes on the same connection, or on another one
		met := map[string]int{}
		for stop := 0; ; stop++ {
			one := term([]int{0, 0, 0, 0, 0, 0, conn, conn, conn, conn}, at(0, 0, create(b, "ada", 99)+create(b, "eve", 99)), at(0, 1, create(b, "bob", 99)))
			one.Stop = stop
			found := map[int]int{}
			for _, crash := range crashes() {
				one.Crash = crash
				told := play(t, c, one)
				found[len(told.End[0].Sessions)]++
				s := told.Terms[0]
				for _, a := range s.Asked {
					if a.Fate == api.FateUnsure {
						met[fmt.Sprint(a.Conn, a.Nth, " told ", a.Status)]++
						met[fmt.Sprint("found ", len(told.End[0].Sessions))]++
					}
				}
			}
			if play(t, c, one).Terms[0].Steps == 10 {
				break
			}
		}
		for _, key := range []string{"0 0 told 201", "found 0", "found 1", fmt.Sprint(conn, 1-conn, " told 201"), "found 2"} {
			if met[key] == 0 {
				t.Errorf("%s was not met, but %v", key, met)
			}
		}
	}
}

func TestReadsAtTheLastStep(t *testing.T) { // P27.3: the power that goes in another's step, or was gone ahead, makes no read unsure
	c := config(9)
	b := c.Tenants[0]
	for stop := range 12 {
		x := term(zeros(9), at(0, 0, stats(b)))
		x.Stop = stop
		for _, a := range play(t, c, x).Terms[0].Asked {
			want(t, "Fate", a.Fate == api.FateUnsure, false)
		}
	}
	// a flush takes the power; a create waits for its commit, a read is determined
	c.Options.Mem = 1
	met := 0
	for stop := range 40 {
		x := term([]int{0, 0, 0, 0, 0, 0, 0, 0, 2, 2, 1, 1, laysDown, 0, 0, 0}, at(0, 0, create(b, "ada", 99)+create(b, "eve", 99)), at(0, 1, create(b, "bob", 99)), at(0, 2, stats(b)))
		x.Stop = stop
		told := play(t, c, x)
		if s := told.Terms[0]; s.Steps == 13 {
			met++
			want(t, "asked", shorts(s.Asked)[2:], []short{{2, 0, 0, 9, -1, 200, 1}, {1, 0, 0, -1, -1, 0, 0}})
			want(t, "End", len(told.End[0].Sessions), 2)
		}
	}
	if met < 4 {
		t.Errorf("met %d times", met)
	}
}

func TestCrashKeeps(t *testing.T) { // P27.2: Dir and Keep: what is below 0 counts as 0, Dir as many as are pending at most; fewer and more than there are files
	c := config(9)
	b := c.Tenants[0]
	one := term(zeros(4), at(0, 0, create(b, "ada", 99)))
	found := map[string]int{}
	for stop := range 12 {
		for _, dir := range []int{math.MinInt, -1, 0, 1, 2, 3, 4, 5, 1000, math.MaxInt} {
			for _, keep := range [][]int{nil, {0}, {-1, -1, -1}, {math.MinInt, 0, 500}, {500, 500, 500, 500, 500, 500, 500}, {0, 0, 9}, {math.MaxInt, math.MaxInt, math.MaxInt}} {
				one.Stop, one.Crash = stop, api.Crash{Dir: dir, Keep: keep}
				told := play(t, c, one)
				want(t, "Err", told.Err, api.OK)
				if len(told.Terms[0].Asked) > 0 && told.Terms[0].Asked[0].Fate == api.FateUnsure {
					found[fmt.Sprint(len(keep), " ", slices.Max(append(keep, 0)), ": ", len(told.End[0].Sessions))]++
				}
			}
		}
	}
	for _, key := range []string{"0 0: 0", "1 0: 0", "3 0: 0", "3 500: 1", "3 9: 0", "7 500: 1"} {
		if found[key] == 0 {
			t.Errorf("%s was not met, but %v", key, found)
		}
	}
}

func TestKept(t *testing.T) { // P27.5: what was sent with success is there behind the worst crash
	for seed := range int64(40) {
		d := newDice(5000 + seed)
		told := play(t, d.c, d.terms(3, func(x *api.Term) {
			x.Stop = pickOf(d.r, -1, d.r.Intn(100))
		})...)
		for i, x := range d.c.Tenants {
			var entries []api.Entry
			for _, s := range told.Terms {
				for _, a := range s.Asked {
					if a.Call.Tenant == i && a.IsCall && a.Done >= 0 && a.Status == 201 {
						entries = append(entries, api.Entry{Kind: api.CallCreate, Tick: a.Tick, Subject: a.Answer.Token})
					}
				}
			}
			for _, e := range entries {
				if !slices.ContainsFunc(told.End[i].Entries, func(y api.Entry) bool { y.Number = 0; return y == e }) {
					t.Errorf("%s: %+v is gone", x.Name, e)
				}
			}
		}
	}
}
