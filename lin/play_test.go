package lin_test

import (
	"fmt"
	"math/rand"
	"sync"
	"testing"

	"atrium/api"
	"atrium/server"
)

// played is a play, and what was told of it.
type played struct {
	what string
	r    *rand.Rand // for what a test does with it
	c    api.Config
	l    []api.Term
	x    api.Told
}

// plays calls a function for plays of each sort.
func plays(each func(p played)) {
	for i, p := range allPlays() {
		p.r = rand.New(rand.NewSource(int64(i)))
		each(p)
	}
}

// allPlays are played once.
var allPlays = sync.OnceValue(func() []played {
	var all []played
	add := func(what string, j int, d *dice, l []api.Term) {
		all = append(all, played{what: fmt.Sprintf("%s %d", what, j), c: d.c, l: l, x: server.Play(d.c, l)})
	}
	sorts := []struct {
		what  string
		plays int
		setUp func(d *dice) func(x *api.Term)
	}{
		{"calm", 25, func(d *dice) func(x *api.Term) { return func(*api.Term) {} }},
		{"wild", 25, func(d *dice) func(x *api.Term) {
			d.wild = true
			return func(*api.Term) {}
		}},
		{"crashes", 30, func(d *dice) func(x *api.Term) {
			return func(x *api.Term) { x.Crash = d.crash() }
		}},
		{"faults", 60, func(d *dice) func(x *api.Term) {
			return func(x *api.Term) { x.Faults, x.Crash = d.faults(), d.crash() }
		}},
		{"power", 80, func(d *dice) func(x *api.Term) {
			return func(x *api.Term) { x.Stop, x.Crash = d.r.Intn(90), d.crash() }
		}},
		{"tight", 40, func(d *dice) func(x *api.Term) {
			d.c.Capacity = 300 + d.r.Intn(2000)
			return func(x *api.Term) { x.Crash = d.crash() }
		}},
		{"all", 40, func(d *dice) func(x *api.Term) {
			d.c.Capacity = 1000 + d.r.Intn(8000)
			d.wild = d.r.Intn(2) == 0
			return func(x *api.Term) {
				x.Crash = d.crash()
				if d.r.Intn(2) == 0 {
					x.Faults = d.faults()
				}
				if d.r.Intn(3) == 0 {
					x.Stop = d.r.Intn(120)
				}
			}
		}},
	}
	for i, s := range sorts {
		for j := range s.plays {
			d := newDice(int64(1000*i + j))
			l := d.terms(1+d.r.Intn(4), s.setUp(d))
			add(s.what, j, d, l)
		}
	}
	for j := range 150 {
		d := newDice(int64(90000 + j))
		l := d.brief(1 + d.r.Intn(6))
		add("brief", j, d, l)
	}
	return all
})

// brief is terms in which little is asked, and one of the first commits fails, or the power goes within it: of many nobody knows whether they were done.
func (d *dice) brief(n int) []api.Term {
	var l []api.Term
	for range n {
		who := d.c.Tenants[d.r.Intn(len(d.c.Tenants))]
		x := term(zeros(6+d.r.Intn(6)), at(0, 0, create(who, pickOf(d.r, "ada", "eve"), 99)+d.request()))
		x.Crash = d.crash()
		if d.r.Intn(2) == 0 {
			x.Faults = []api.Fault{{Op: pickOf(d.r, api.OpAppend, api.OpSync, api.OpSync), Nth: 1 + d.r.Intn(9), Kind: 1 + d.r.Intn(2)}}
		} else {
			x.Stop = 9 + d.r.Intn(8)
		}
		l = append(l, x)
	}
	return l
}

func TestPlays(t *testing.T) { // P29.4: of what was played all is true; of what has no End, as that could not be read, but the End
	met := map[string]int{}
	plays(func(p played) {
		got := look(t, p.what, p.c, p.l, p.x)
		should := fine
		if p.x.Err != api.OK {
			should = bad(len(p.l))
			met["without an End"]++
		}
		if got.order != fine || got.explain != should || got.sent != fine || got.worlds < 1 {
			t.Errorf("%s: Err %d: %+v", p.what, p.x.Err, got)
		}
		met[fmt.Sprint("worlds ", got.worlds)]++
		for _, s := range p.x.Terms {
			if s.Open != api.OK {
				met["an Open refused"]++
			}
			for _, a := range s.Asked {
				met[fmt.Sprint("fate ", a.Fate)]++
				met[fmt.Sprint("status ", a.Status)]++
			}
		}
	})
	for name, least := range map[string]int{"fate 0": 500, "fate 1": 3000, "fate 2": 60, "fate 3": 40, "status 500": 40, "status 507": 10, "status 429": 100, "worlds 2": 20, "worlds 4": 2, "an Open refused": 50, "without an End": 10} {
		if met[name] < least {
			t.Errorf("%s: %v", name, met)
		}
	}
}
