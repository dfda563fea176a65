package model_test

import (
	"fmt"
	"math"
	"strings"
	"testing"

	"atrium/api"
	"atrium/model"
)

func TestExample(t *testing.T) {
	p := fresh(t, 1)
	create := api.Call{Kind: api.CallCreate, User: "ada", TTL: 5}
	p.told(create, 10, api.Answer{Status: 201, Token: token(1, 0), Expires: 15})
	p.told(create, 14, over)
	get := api.Call{Kind: api.CallGet, Token: token(1, 0)}
	p.told(get, 14, api.Answer{Status: 200, User: "ada", Expires: 15})
	p.told(get, 15, missing)
	p.told(create, 15, api.Answer{Status: 201, Token: token(2, 0), Expires: 20})
	p.check(14, 15, 19, 20)
}

func TestNew(t *testing.T) { // P23.1: a world in which nobody has a session
	for _, n := range []int{1, 2, 15, 16} {
		w, e := model.New(many(n, 5))
		want(t, "New", e, api.OK)
		for i := range n {
			want(t, "Live", len(w.Live(i, 0)), 0)
			want(t, "Entries", len(w.Entries(i)), 0)
			want(t, "Head", w.Head(i), strings.Repeat("0", 64))
			want(t, "Next", w.Next(i), 1)
		}
		wantNobody(t, w, -1)
		wantNobody(t, w, n)
	}
}

// wantNobody is that a tenant is none.
func wantNobody(t *testing.T, w *model.World, tenant int) {
	t.Helper()
	want(t, "Live of nobody", len(w.Live(tenant, 0)), 0)
	want(t, "Entries of nobody", len(w.Entries(tenant)), 0)
	want(t, "Head of nobody", w.Head(tenant), "")
	want(t, "Next of nobody", w.Next(tenant), 0)
	for kind := -1; kind < 12; kind++ {
		wantAnswer(t, "Do of nobody", w.Do(rightCall(kind, tenant), 1), bad)
	}
}

// rightCall is a call in which each field may be.
func rightCall(kind, tenant int) api.Call {
	return api.Call{Kind: kind, Tenant: tenant, Token: token(1, 77), User: "ada", Data: "d", TTL: 5, From: 1, Draw: 77}
}

func TestNewRefused(t *testing.T) { // P23.1: what cred.Check refuses
	for n, l := range [][]api.Tenant{
		nil,
		{},
		many(17, 1),
		many(2, -1),
		many(1, 1<<20+1),
		{{}},
		{{Name: "a"}},
		{{Key: "k"}},
		{{Name: "A", Key: "k"}},
		{{Name: "a b", Key: "k"}},
		{{Name: strings.Repeat("a", 33), Key: "k"}},
		{{Name: "a", Key: strings.Repeat("k", 65)}},
		{{Name: "a", Key: "k"}, {Name: "a", Key: "l"}},
		{{Name: "a", Key: "k"}, {Name: "b", Key: "l"}, {Name: "a", Key: "k"}},
	} {
		w, e := model.New(l)
		if w != nil || e != api.ErrArg {
			t.Errorf("New of list %d: %v, %d", n, w, e)
		}
	}
	for _, quota := range []int{0, 1, 1 << 20} {
		if w, e := model.New(many(3, quota)); w == nil || e != api.OK {
			t.Errorf("New with quota %d: %v, %d", quota, w, e)
		}
	}
}

func TestNewKeepsNothing(t *testing.T) { // R3: a list that is changed behind New changes no world
	l := many(2, 1)
	w, _ := model.New(l)
	l[0].Quota, l[1].Quota = 0, 1<<20
	want(t, "quota 1", w.Do(rightCall(api.CallCreate, 0), 1).Status, 201)
	want(t, "quota 1", w.Do(rightCall(api.CallCreate, 1), 1).Status, 201)
	wantAnswer(t, "quota 1", w.Do(rightCall(api.CallCreate, 1), 1), over)
}

func TestNilWorld(t *testing.T) { // P23.1
	var w *model.World
	for tenant := -1; tenant < 3; tenant++ {
		wantNobody(t, w, tenant)
	}
	for _, now := range []uint64{0, 1, math.MaxUint64} {
		want(t, "Live", len(w.Live(0, now)), 0)
		for kind := -1; kind < 12; kind++ {
			wantAnswer(t, "Do", w.Do(rightCall(kind, 0), now), bad)
			wantAnswer(t, "Do", w.Do(api.Call{Kind: kind}, now), bad)
		}
	}
	if w.Fork() != nil {
		t.Error("Fork of nil")
	}
}

func TestKinds(t *testing.T) { // P23.1: each kind, and what is none
	status := map[int]int{1: 201, 2: 200, 3: 200, 4: 204, 5: 200, 6: 200, 7: 200, 8: 200, 9: 200}
	for _, kind := range []int{1, 2, 3, 4, 5, 6, 7, 8, 9, 0, -1, 10, 11, 100, 1 << 32, 1<<32 + 1, math.MinInt, math.MaxInt} {
		p := fresh(t, 5, 5)
		p.create("ada", 5, 1)
		ahead := standing(p.w, 2)
		a := p.do(rightCall(kind, 0), 2)
		if should, is := status[kind]; is {
			want(t, fmt.Sprint("kind ", kind), a.Status, should)
		} else {
			wantAnswer(t, fmt.Sprint("kind ", kind), a, bad)
			want(t, "nothing has changed", standing(p.w, 2), ahead)
		}
		p.check(2, 3, 5, 6, 7)
	}
}

func TestTenants(t *testing.T) { // P23.1: each kind, of a tenant that is none
	for n := 1; n <= 16; n++ {
		p := fresh(t, make([]int, n)...)
		for _, tenant := range []int{-1, n, n + 1, 16, 17, -16, 1 << 32, math.MinInt, math.MaxInt} {
			if tenant >= 0 && tenant < n {
				continue
			}
			for kind := 1; kind <= 9; kind++ {
				p.told(rightCall(kind, tenant), 1, bad)
			}
			wantNobody(t, p.w, tenant)
		}
		p.check()
	}
}

func TestFieldsThatDoNotCount(t *testing.T) { // P23.1: what a kind does not name may be whatever it is
	p := fresh(t, 3)
	k := p.create("ada", 5, 1)
	p.told(api.Call{Kind: api.CallGet, Token: k, User: "\xFF", Data: strings.Repeat("d", 600), TTL: -1, From: -1}, 2, api.Answer{Status: 200, User: "ada", Data: "x", Expires: 6})
	p.told(api.Call{Kind: api.CallTouch, Token: k, User: "\xFF", Data: strings.Repeat("d", 600), TTL: 7, From: -1}, 2, api.Answer{Status: 200, Expires: 9})
	p.told(api.Call{Kind: api.CallList, Token: "none", User: "ada", Data: "\xFF", TTL: -1, From: -1}, 2, api.Answer{Status: 200, Tokens: []string{k}})
	p.told(api.Call{Kind: api.CallStats, Token: "none", User: "\xFF", Data: "\xFF", TTL: -1, From: -1}, 2, api.Answer{Status: 200, Live: 1, Users: 1, Total: 2, Next: 2})
	p.told(api.Call{Kind: api.CallRevoke, Token: k, User: "\xFF", Data: "\xFF", TTL: -1, From: -1}, 2, api.Answer{Status: 204})
	p.told(api.Call{Kind: api.CallCreate, Token: k, User: "bob", TTL: 1, From: -1}, 2, api.Answer{Status: 201, Token: token(2, 0), Expires: 3})
	p.told(api.Call{Kind: api.CallRevokeUser, Token: k, User: "bob", Data: "\xFF", TTL: -1, From: -1}, 2, api.Answer{Status: 200, Revoked: 1})
	p.told(api.Call{Kind: api.CallRevokeAll, Token: k, User: "\xFF", Data: "\xFF", TTL: -1, From: -1}, 2, api.Answer{Status: 200})
	a := p.do(api.Call{Kind: api.CallAudit, Token: "none", User: "\xFF", Data: "\xFF", TTL: -1, From: 5}, 2)
	want(t, "CallAudit", a.Entries, []api.Entry{{Number: 5, Kind: api.CallRevokeUser, Tick: 2, Subject: "bob"}})
	p.check(2)
}

func TestRefusedIsNothing(t *testing.T) { // P23.3: of each kind what does not mutate
	p := fresh(t, 2, 0)
	k := p.create("ada", 5, 10)
	old := p.create("bob", 2, 10)
	for _, c := range []struct {
		call api.Call
		now  uint64
	}{
		{api.Call{Kind: api.CallCreate, User: "ada", TTL: 1}, 11},               // the quota
		{api.Call{Kind: api.CallCreate, User: "", TTL: 1}, 20},                  // no name
		{api.Call{Kind: api.CallCreate, User: "ada", TTL: 0}, 20},               // no TTL
		{api.Call{Kind: api.CallCreate, User: "ada", Data: "\xFF", TTL: 1}, 20}, // not right
		{api.Call{Kind: api.CallCreate, Tenant: 1, User: "ada", TTL: 1}, 20},    // a quota of 0
		{api.Call{Kind: api.CallGet, Token: k}, 11},
		{api.Call{Kind: api.CallGet, Token: k}, 15},
		{api.Call{Kind: api.CallGet, Token: "none"}, 11},
		{api.Call{Kind: api.CallTouch, Token: k}, 11}, // no TTL
		{api.Call{Kind: api.CallTouch, Token: k, TTL: 9}, 15},
		{api.Call{Kind: api.CallTouch, Token: "none", TTL: 9}, 11},
		{api.Call{Kind: api.CallTouch, Tenant: 1, Token: k, TTL: 9}, 11},
		{api.Call{Kind: api.CallRevoke, Token: old}, 12},
		{api.Call{Kind: api.CallRevoke, Tenant: 1, Token: k}, 11},
		{api.Call{Kind: api.CallRevokeUser, User: ""}, 11},
		{api.Call{Kind: api.CallRevokeUser, User: "eve"}, 11},
		{api.Call{Kind: api.CallRevokeUser, User: "bob"}, 12},
		{api.Call{Kind: api.CallRevokeUser, Tenant: 1, User: "ada"}, 11},
		{api.Call{Kind: api.CallRevokeAll}, 15},
		{api.Call{Kind: api.CallRevokeAll, Tenant: 1}, 11},
		{api.Call{Kind: api.CallList, User: "ada"}, 11},
		{api.Call{Kind: api.CallList}, 11},
		{api.Call{Kind: api.CallAudit, From: 1}, 11},
		{api.Call{Kind: api.CallAudit}, 11},
		{api.Call{Kind: api.CallStats}, 11},
		{api.Call{Kind: 0}, 11},
		{api.Call{Kind: 10}, 11},
		{api.Call{Kind: api.CallRevokeAll, Tenant: 2}, 11},
		{api.Call{Kind: api.CallRevokeAll, Tenant: -1}, 11},
	} {
		ahead := standing(p.w, 2)
		a := p.do(c.call, c.now)
		want(t, "Mutates", model.Mutates(c.call, a), false)
		want(t, fmt.Sprintf("behind %+v", c.call), standing(p.w, 2), ahead)
		p.check(10, 11, 12, 15, 20)
	}
}

func TestApart(t *testing.T) { // P23.4: calls of one tenant change nothing of another's
	p := fresh(t, 3, 3, 3)
	for i := range 3 { // numbers and draws are alike: so are the tokens
		want(t, "its first token", p.createOf(i, "ada", 9, 10), token(1, 77))
	}
	for kind := 1; kind <= 9; kind++ {
		for i := range 3 {
			var ahead []string
			for j := range 3 {
				ahead = append(ahead, standingOf(p.w, j))
			}
			p.do(rightCall(kind, i), 11)
			for j := range 3 {
				if j != i {
					want(t, fmt.Sprint("tenant ", j, " behind a call of ", i), standingOf(p.w, j), ahead[j])
				}
			}
			p.check(10, 11, 19)
		}
	}
	for i := range 3 { // each was told the same, whatever the others asked
		want(t, "the list", p.w.Head(i), p.w.Head(0))
	}
}

func TestFork(t *testing.T) { // P23.1: another one that is the same
	p := fresh(t, 3, 1)
	k := p.create("ada", 9, 10)
	p.create("bob", 9, 10)
	p.do(api.Call{Kind: api.CallTouch, Token: k, TTL: 3}, 11) // three entries: a list that has spare room
	at := standing(p.w, 2)
	l := []*model.World{p.w, p.w.Fork()}
	l = append(l, l[1].Fork())
	for _, w := range l {
		want(t, "the same", standing(w, 2), at)
	}
	for kind := 1; kind <= 9; kind++ {
		for i, w := range l {
			var ahead []string
			for _, other := range l {
				ahead = append(ahead, standing(other, 2))
			}
			c := rightCall(kind, i%2)
			c.Draw, c.User = uint64(i), fmt.Sprint("user ", i)
			w.Do(c, 11+uint64(i))
			w.Do(api.Call{Kind: api.CallTouch, Token: k, TTL: 3 + i}, 12)
			for j, other := range l {
				if j != i {
					want(t, fmt.Sprint("world ", j, " behind a call on ", i), standing(other, 2), ahead[j])
				}
			}
		}
	}
	for i, w := range l {
		for tenant := range 2 {
			want(t, fmt.Sprint("the head of world ", i), w.Head(tenant), headOf(w.Entries(tenant)))
		}
	}
	if l[0].Head(0) == l[1].Head(0) || l[1].Head(0) == l[2].Head(0) {
		t.Error("unlike calls, and one head")
	}
}

func TestForkQuota(t *testing.T) { // P23.1: a fork has the quotas, the next numbers, and what lives no more
	p := fresh(t, 1)
	k := p.create("ada", 5, 10)
	w := p.w.Fork()
	wantAnswer(t, "the quota", w.Do(rightCall(api.CallCreate, 0), 14), over)
	a := w.Do(rightCall(api.CallCreate, 0), 15)
	want(t, "the next number", a.Token, token(2, 77))
	want(t, "an expired one", w.Fork().Do(api.Call{Kind: api.CallGet, Token: k}, 14).Status, 200)
}

func TestNewMemory(t *testing.T) { // R3: what was told may be changed
	p := fresh(t, 5)
	p.create("ada", 9, 10)
	p.create("ada", 9, 10)
	p.create("bob", 9, 10)
	list := p.do(api.Call{Kind: api.CallList, User: "ada"}, 11)
	audit := p.do(api.Call{Kind: api.CallAudit, From: 2}, 11)
	entries, live := p.w.Entries(0), p.w.Live(0, 11)
	for i := range list.Tokens[:cap(list.Tokens)] {
		list.Tokens[:cap(list.Tokens)][i] = "turned"
	}
	for _, l := range [][]api.Entry{audit.Entries, entries} {
		l = l[:cap(l)]
		for i := range l {
			l[i] = api.Entry{Number: 99, Subject: "turned"}
		}
	}
	live = live[:cap(live)]
	for i := range live {
		live[i] = api.Session{Token: "turned"}
	}
	p.check(11)
	p.create("eve", 9, 11)
	p.check(11)
	p.do(api.Call{Kind: api.CallAudit, From: 1}, 11)
	p.do(api.Call{Kind: api.CallList, User: "ada"}, 11)
}
