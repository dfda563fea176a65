package model_test

import (
	"fmt"
	"math"
	"testing"

	"atrium/api"
)

// touched is a world whose tenant 0 has so many entries: a create, and touches of it.
func touched(t *testing.T, n int) *play {
	t.Helper()
	p := fresh(t, 5, 5)
	for i := range n {
		if i == 0 {
			p.create("ada", 1000, 10)
		} else {
			p.do(touch(token(1, 77), 1000), 10+uint64(i))
		}
	}
	return p
}

func TestAudit(t *testing.T) { // P23.1: 15, 16 and 17 entries, from wherever
	for _, n := range []int{0, 1, 2, 15, 16, 17, 31, 32, 33} {
		p := touched(t, n)
		all := p.w.Entries(0)
		want(t, "how many", len(all), n)
		ahead := standing(p.w, 2)
		for _, from := range []int{math.MinInt, -1 << 32, -1, 0} {
			p.told(api.Call{Kind: api.CallAudit, From: from}, 50, bad)
		}
		for _, from := range []int{1, 2, 3, 14, 15, 16, 17, 18, n - 16, n - 15, n - 1, n, n + 1, n + 2, 1 << 31, 1 << 32, math.MaxInt} {
			if from < 1 {
				continue
			}
			first := min(from-1, n)
			a := p.do(api.Call{Kind: api.CallAudit, From: from}, 50)
			wantAnswer(t, fmt.Sprint("from ", from, " of ", n), a, api.Answer{Status: 200, Entries: all[first:min(first+16, n)], Head: headOf(all)})
			want(t, "Head", a.Head, p.w.Head(0))
		}
		p.told(api.Call{Kind: api.CallAudit, Tenant: 1, From: 1}, 50, api.Answer{Status: 200, Head: headOf(nil)})
		want(t, "nothing has changed", standing(p.w, 2), ahead)
	}
}

func TestAuditTicks(t *testing.T) { // P23.1: a list is the same at each tick
	p := touched(t, 5)
	for _, now := range []uint64{0, 9, 1 << 40, math.MaxUint64} {
		a := p.do(api.Call{Kind: api.CallAudit, From: 1}, now)
		want(t, "how many", len(a.Entries), 5)
	}
}

func TestEntries(t *testing.T) { // P23.5: the mutations that were done, in their order
	p := fresh(t, 2)
	k := p.create("ada", 5, 10)
	p.do(get(k), 10)
	p.do(touch(k, 9), 11)
	p.do(touch(k, 0), 11)
	two := p.create("bob", 5, 9)
	p.do(creates(), 10)
	p.do(revoke(k), 12)
	p.do(revoke(k), 12)
	p.do(revokeUser("ada"), 12)
	p.do(revokeUser("bob"), 13)
	p.do(revokeAll(), 13)
	p.create("eve", 1, 13)
	p.do(revokeAll(), 13)
	should := []api.Entry{
		{Number: 1, Kind: 1, Tick: 10, Subject: k}, {Number: 2, Kind: 3, Tick: 11, Subject: k}, {Number: 3, Kind: 1, Tick: 9, Subject: two}, {Number: 4, Kind: 4, Tick: 12, Subject: k},
		{Number: 5, Kind: 5, Tick: 13, Subject: "bob"}, {Number: 6, Kind: 1, Tick: 13, Subject: token(3, 77)}, {Number: 7, Kind: 6, Tick: 13},
	}
	want(t, "Entries", p.w.Entries(0), should)
	want(t, "Head", p.w.Head(0), headOf(should))
	p.check(10, 13)
}

func TestHeads(t *testing.T) { // P23.5: the head tells lists apart that differ anywhere
	seen := map[string]string{}
	for first := range 3 {
		for second := range 3 {
			for now := range uint64(3) {
				p := fresh(t, 9)
				k := p.do(api.Call{Kind: api.CallCreate, User: "ada", TTL: 9, Draw: uint64(first)}, 10).Token
				c := []api.Call{revoke(k), touch(k, 5), revokeAll()}[second]
				p.do(c, 10+now)
				l := fmt.Sprint(p.w.Entries(0))
				if other, is := seen[p.w.Head(0)]; is {
					t.Errorf("one head of %s and %s", l, other)
				}
				seen[p.w.Head(0)] = l
				want(t, "Head", p.w.Head(0), headOf(p.w.Entries(0)))
			}
		}
	}
	want(t, "heads", len(seen), 27)
}

func TestStats(t *testing.T) { // P23.1: how many live, of how many users, how many entries, the next number
	p := fresh(t, 100, 100)
	stats := api.Call{Kind: api.CallStats}
	p.told(stats, 10, api.Answer{Status: 200, Next: 1})
	p.create("ada", 5, 10)
	p.create("ada", 6, 10)
	p.create("Ada", 7, 10)
	p.create("é", 8, 10)
	p.createOf(1, "zoe", 5, 10)
	for _, x := range []struct {
		now         uint64
		live, users int
	}{
		{0, 4, 3}, {10, 4, 3}, {14, 4, 3}, {15, 3, 3}, {16, 2, 2}, {17, 1, 1}, {18, 0, 0}, {math.MaxUint64, 0, 0},
	} {
		p.told(stats, x.now, api.Answer{Status: 200, Live: x.live, Users: x.users, Total: 4, Next: 5})
	}
	p.do(revokeUser("Ada"), 10)
	p.told(stats, 10, api.Answer{Status: 200, Live: 3, Users: 2, Total: 5, Next: 5})
	p.do(revokeAll(), 10)
	p.told(stats, 10, api.Answer{Status: 200, Total: 6, Next: 5})
	p.told(api.Call{Kind: api.CallStats, Tenant: 1}, 10, api.Answer{Status: 200, Live: 1, Users: 1, Total: 1, Next: 2})
	p.check(10)
}
