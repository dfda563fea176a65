package server_test

import (
	"fmt"
	"slices"
	"strings"
	"testing"

	"atrium/api"
)

func TestFullDisk(t *testing.T) { // P27.3, P27.4: 507 is done by nobody; what was there can be read
	b := some(50)[0]
	list := ask(b, "GET", "/users/ada/sessions", "")
	x := term(nil, at(0, 0, strings.Repeat(create(b, "ada", 99), 9)+list+stats(b)+ask(b, "DELETE", "/sessions", "")))
	x.Steps = 60
	met, ended := 0, 0
	for capacity := 0; capacity < 9000; capacity += 61 {
		c := config(50)
		c.Capacity = capacity
		told := play(t, c, x)
		if told.Err != api.OK {
			want(t, "Err", told.Err, api.ErrFull)
		}
		s := told.Terms[0]
		if s.Open != api.OK {
			want(t, "Open", s.Open, api.ErrFull)
			want(t, "a term without an engine", s, api.Served{Open: api.ErrFull, Lines: make([]api.Line, 8)})
			continue
		}
		made := 0
		for _, a := range s.Asked[:9] {
			if a.Status == 201 {
				made++
				continue
			}
			want(t, "refused", a.Answer, api.Answer{Status: 507, Word: "full"})
			want(t, "refused", a.Fate, api.FateNone)
			want(t, "its commit's step", a.Done-a.Point, 1)
			met++
		}
		want(t, "what can be read", len(s.Asked[9].Answer.Tokens), made)
		want(t, "what can be read", s.Asked[10].Answer.Total, made)
		if made < 9 {
			want(t, "sent", strings.Contains(s.Lines[0].Output, refusal("507 Insufficient Storage", "full", false)), true)
			want(t, "closed", s.Lines[0].Closed, false)
		}
		if told.Err == api.OK {
			ended++
		}
	}
	if met < 50 || ended < 20 {
		t.Errorf("%d were refused, %d could be opened", met, ended)
	}
}

// thrice is a create, another one, one more, and what lives, in a term; then what lives, and one more in the next.
func thrice(b api.Tenant, crash api.Crash) (api.Term, api.Term) {
	one := term(zeros(18), at(0, 0, create(b, "ada", 99)+create(b, "eve", 99)+create(b, "bob", 99)+stats(b)))
	one.Crash = crash
	return one, term(zeros(9), at(0, 0, stats(b)+create(b, "joe", 99)))
}

func TestCommitFails(t *testing.T) { // P27.3, P27.4: an operation that fails at each step of a commit: 500, unsure; all further changes 500, till the next term
	c := config(9)
	c.Options.Mem = 1 // each create but the first one freezes
	met := map[string]int{}
	for op := api.OpCreate; op <= api.OpSyncDir; op++ {
		for nth := 1; nth < 9; nth++ {
			for _, kind := range []int{api.FaultClean, api.FaultDone} {
				for keep, crash := range []api.Crash{{}, {Dir: 1 << 20, Keep: slices.Repeat([]int{1 << 20}, 20)}} {
					one, two := thrice(c.Tenants[0], crash)
					told := play(t, c, fails(op, nth, kind, one), two)
					asked := told.Terms[0].Asked
					i := slices.IndexFunc(asked, func(a api.Asked) bool { return a.Status >= 500 })
					if told.Terms[0].Open != api.OK || i < 0 {
						continue
					}
					for j, a := range asked[:3] {
						fate := []int{api.FateDone, api.FateUnsure, api.FateNone}[1+min(max(j-i, -1), 1)]
						want(t, "Fate", a.Fate, fate)
						if j >= i {
							want(t, "Answer", plainAnswer(a.Answer), api.Answer{Status: 500, Word: "failed"})
						}
					}
					want(t, "what lives in the term", asked[3].Answer.Live, i)
					found := told.Terms[1].Asked[0].Answer.Live
					if found < i || found > i+1 {
						t.Errorf("operation %d of %d: %d found, %d were there", nth, op, found, i)
					}
					met[fmt.Sprintf("op %d, create %d, kept %d: %d more", op, i, keep, found-i)]++
					want(t, "the next term's create", told.Terms[1].Asked[1].Status, 201)
				}
			}
		}
	}
	for _, s := range []string{ // creating and naming the new log, appending, syncing; what persists of these bytes
		"op 1, create 1, kept 0: 0 more", "op 6, create 1, kept 0: 0 more",
		"op 2, create 0, kept 0: 0 more", "op 2, create 0, kept 1: 1 more", "op 2, create 0, kept 1: 0 more", "op 3, create 0, kept 0: 0 more", "op 3, create 0, kept 0: 1 more", "op 3, create 0, kept 1: 1 more", "op 2, create 2, kept 1: 1 more",
	} {
		if met[s] == 0 {
			t.Errorf("%s was not met, but %v", s, met)
		}
	}
}

func TestOpenRefused(t *testing.T) { // P27.2: in the first term, and in a later one: no steps; what was there is there
	c := config(9)
	b := c.Tenants[0]
	one, two := thrice(b, api.Crash{})
	one.Timing.Ticks, two.Timing.Ticks = []int{3}, []int{4}
	met := map[string]int{}
	for op := api.OpCreate; op <= api.OpRead; op++ {
		for nth := 1; nth < 7; nth++ {
			for _, kind := range []int{api.FaultClean, api.FaultDone} {
				told := play(t, c, fails(op, nth, kind, two), one)
				if told.Terms[0].Open != api.OK {
					met["first"]++
					want(t, "a term without an engine", told.Terms[0], api.Served{Open: told.Terms[0].Open, Lines: make([]api.Line, 8)})
					want(t, "the next one", []int{len(told.Terms[1].Asked), len(told.End[0].Sessions)}, []int{4, 3})
				}
				told = play(t, c, one, fails(op, nth, kind, two), two)
				if told.Terms[1].Open != api.OK {
					met["later"]++
					met[fmt.Sprint("later ", told.Terms[1].Open)]++
					want(t, "a term without an engine", told.Terms[1], api.Served{Open: told.Terms[1].Open, Lines: make([]api.Line, 8), Clock: 3})
					want(t, "the next one's clock", told.Terms[2].Clock, 7)
					want(t, "what was there", told.Terms[2].Asked[0].Answer.Live, 3)
					want(t, "End", len(told.End[0].Sessions), 4)
				}
			}
		}
	}
	if met["first"] < 8 || met["later"] < 12 || met[fmt.Sprint("later ", api.ErrIO)] < 8 || met[fmt.Sprint("later ", api.ErrDamaged)] < 2 {
		t.Errorf("met: %v", met)
	}
}

func TestFaultsAreTheTerms(t *testing.T) { // P27.2: those of a term ahead are forgotten, and the End has none
	c := config(9)
	one, two := thrice(c.Tenants[0], api.Crash{})
	one.Faults = []api.Fault{{Op: api.OpAppend, Nth: 1000, Kind: 1}, {Op: api.OpSync, Nth: 12, Kind: 1}, {Op: api.OpRead, Nth: 1, Kind: 1}}
	one.Stop = 1000
	told := play(t, c, one, two, two)
	for i, s := range told.Terms {
		want(t, fmt.Sprint("Open of ", i), s.Open, api.OK)
		for _, a := range s.Asked {
			want(t, "Fate", a.Fate, api.FateDone)
		}
	}
	two.Stop, two.Faults = 0, []api.Fault{{Op: api.OpAppend, Nth: 1, Kind: 1}, {Op: api.OpRead, Nth: 1, Kind: 1}}
	told = play(t, c, one, two)
	want(t, "Err", told.Err, api.OK)
	want(t, "End", len(told.End[0].Sessions), 3)
}
