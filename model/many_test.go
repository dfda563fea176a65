package model_test

import (
	"fmt"
	"slices"
	"testing"

	"atrium/api"
)

// The calls of a user, and of all.
func revokeUser(user string) api.Call {
	return api.Call{Kind: api.CallRevokeUser, User: user}
}
func list(user string) api.Call { return api.Call{Kind: api.CallList, User: user} }
func revokeAll() api.Call       { return api.Call{Kind: api.CallRevokeAll} }

// crowd is n sessions of ada's that live up to 100, and among them some of others', and some that expire at 20: ada's tokens, by rising texts.
func crowd(p *play, n int) []string {
	p.t.Helper()
	var l []string
	for i := range n {
		l = append(l, p.create("ada", 90, 10))
		if i%3 == 0 {
			p.create("bob", 90, 10)
		}
		if i%4 == 1 {
			p.create("ada", 10, 10)
			p.create("eve", 10, 10)
		}
	}
	p.createOf(1, "ada", 90, 10)
	slices.Sort(l)
	return l
}

// texts is the tokens of sessions.
func texts(l []api.Session) []string {
	var out []string
	for _, s := range l {
		out = append(out, s.Token)
	}
	return out
}

// sizes is of how many sessions each of what follows is tried.
var sizes = []int{0, 1, 2, 17, 255, 256, 257, 300}

func TestOrderOfTokens(t *testing.T) { // P23.1: tokens rise as texts, not as the numbers that they are of
	p := fresh(t, 1<<20)
	var made []string
	for range 300 {
		made = append(made, p.create("ada", 9, 10))
	}
	if slices.IsSorted(made) {
		t.Error("the numbers' order is the tokens'")
	}
	slices.Sort(made)
	want(t, "Live", texts(p.w.Live(0, 10)), made)
	p.told(list("ada"), 10, api.Answer{Status: 200, Tokens: made[:256]})
	p.told(revokeUser("ada"), 10, api.Answer{Status: 200, Revoked: 256})
	want(t, "those of the greatest tokens stay", texts(p.w.Live(0, 10)), made[256:])
	p.told(revokeAll(), 10, api.Answer{Status: 200, Revoked: 44})
	p.check(10)
}

func TestRevokeUser(t *testing.T) { // P23.1: none, one, 256, 257
	for _, n := range sizes {
		p := fresh(t, 1<<20, 5)
		l := crowd(p, n)
		others := len(p.w.Live(0, 20)) - n
		ahead := len(p.w.Entries(0))
		apart := standingOf(p.w, 1)
		gone := min(n, 256)
		p.told(revokeUser("ada"), 20, api.Answer{Status: 200, Revoked: gone})
		p.told(list("ada"), 20, api.Answer{Status: 200, Tokens: l[gone:]})
		want(t, "the others'", len(p.w.Live(0, 20)), others+n-gone)
		if n == 0 {
			want(t, "no entry", len(p.w.Entries(0)), ahead)
		} else {
			want(t, "one entry", p.w.Entries(0)[ahead:], []api.Entry{{Number: ahead + 1, Kind: api.CallRevokeUser, Tick: 20, Subject: "ada"}})
		}
		p.check(10, 19, 20, 99) // those that expired are there at an earlier tick
		p.told(revokeUser("ada"), 20, api.Answer{Status: 200, Revoked: n - gone})
		p.told(revokeUser("ada"), 20, api.Answer{Status: 200})
		want(t, "another tenant", standingOf(p.w, 1), apart)
		p.check(10, 19, 20, 99)
	}
}

func TestRevokeAll(t *testing.T) { // P23.1: none, one, 256, 257, of whatever users
	for _, n := range sizes {
		p := fresh(t, 1<<20, 5)
		users := []string{"ada", "bob", "é", "a"}
		var l []string
		for i := range n {
			l = append(l, p.create(users[i%4], 90, 10))
			if i%2 == 0 {
				p.create(users[i%3], 10, 10)
			}
		}
		p.createOf(1, "ada", 90, 10)
		slices.Sort(l)
		ahead := len(p.w.Entries(0))
		gone := min(n, 256)
		p.told(revokeAll(), 20, api.Answer{Status: 200, Revoked: gone})
		want(t, "what stays", texts(p.w.Live(0, 20)), append([]string(nil), l[gone:]...))
		if n == 0 {
			want(t, "no entry", len(p.w.Entries(0)), ahead)
		} else {
			want(t, "one entry", p.w.Entries(0)[ahead:], []api.Entry{{Number: ahead + 1, Kind: api.CallRevokeAll, Tick: 20}})
		}
		want(t, "another tenant", len(p.w.Live(1, 20)), 1)
		p.check(10, 19, 20, 99)
		p.told(revokeAll(), 20, api.Answer{Status: 200, Revoked: n - gone})
		p.told(revokeAll(), 20, api.Answer{Status: 200})
		p.check(10, 20)
	}
}

func TestRevokeAgain(t *testing.T) { // P23.1: those that live at an earlier tick go there, too
	p := fresh(t, 9)
	p.create("ada", 5, 10)
	p.told(revokeUser("ada"), 15, api.Answer{Status: 200})
	p.told(revokeAll(), 15, api.Answer{Status: 200})
	p.told(revokeUser("ada"), 14, api.Answer{Status: 200, Revoked: 1})
	p.create("ada", 5, 10)
	p.told(revokeAll(), 14, api.Answer{Status: 200, Revoked: 1})
	p.told(list("ada"), 10, api.Answer{Status: 200})
	p.check(10, 14, 15)
}

func TestList(t *testing.T) { // P23.1: 256 and 257 tokens, rising
	for _, n := range sizes {
		p := fresh(t, 1<<20, 5)
		l := crowd(p, n)
		ahead := standing(p.w, 2)
		p.told(list("ada"), 20, api.Answer{Status: 200, Tokens: l[:min(n, 256)]})
		p.told(list("ada"), 100, api.Answer{Status: 200})
		p.told(list("nobody"), 20, api.Answer{Status: 200})
		p.told(list("eve"), 20, api.Answer{Status: 200})
		p.do(list("eve"), 19)
		p.do(list("ada"), 19)
		want(t, "nothing has changed", standing(p.w, 2), ahead)
	}
}

func TestUsersOfCalls(t *testing.T) { // P23.1: a User that is no name
	p := fresh(t, 9)
	p.create("ada", 9, 10)
	for _, user := range []string{"", "\x00", "ada\n", "\xFF", "\u2028", string(make([]byte, 65)), fmt.Sprintf("%065d", 0), "\x7F"} {
		p.told(list(user), 10, bad)
		p.told(revokeUser(user), 10, bad)
	}
	for _, user := range []string{"Ada", "ada ", " ada", "ad", "adaa", fmt.Sprintf("%064d", 0)} { // a name, but nobody's
		p.told(list(user), 10, api.Answer{Status: 200})
		p.told(revokeUser(user), 10, api.Answer{Status: 200})
	}
	p.check(10)
}
