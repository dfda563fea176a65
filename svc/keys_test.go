package svc_test

import (
	"fmt"
	"math"
	"strings"
	"testing"

	"atrium/api"
	"atrium/record"
	"atrium/svc"
)

// wantPairs is that just these pairs lie in an engine, by rising keys.
func (b *bench) wantPairs(what string, should ...api.Pair) {
	b.t.Helper()
	want(b.t, what, all(b.d), should)
}

// ledgerPair is tenant b's ledger behind entries.
func ledgerPair(next uint64, l ...api.Entry) api.Pair {
	return api.Pair{Key: ledgerKey("b"), Value: ledgerValue(next, uint64(len(l)), headOf(l))}
}

func entryPair(e api.Entry) api.Pair {
	return api.Pair{Key: entryKey("b", uint64(e.Number)), Value: textOf(e)}
}

func expiryPair(expires uint64, token string) api.Pair {
	return api.Pair{Key: key("b", "e", numberPart(expires), textPart(token))}
}

func userPair(user, token string) api.Pair {
	return api.Pair{Key: key("b", "u", textPart(user), textPart(token))}
}

func sessionPair(s api.Session) api.Pair {
	return api.Pair{Key: sessionKey("b", s.Token), Value: sessionValue(s)}
}

func TestKeys(t *testing.T) { // P25.2, P25.7: what lies under each key, one call behind the other
	b := newBench(t, 9)
	tok := token(1, 7)
	one := api.Entry{Number: 1, Kind: api.CallCreate, Tick: 10, Subject: tok}
	b.do(create("ada", 9, 7), 10)
	s := api.Session{Token: tok, User: "ada", Data: "x", Expires: 19}
	b.wantPairs("create", entryPair(one), expiryPair(19, tok), ledgerPair(2, one), sessionPair(s), userPair("ada", tok))

	two := api.Entry{Number: 2, Kind: api.CallTouch, Tick: 12, Subject: tok}
	b.do(api.Call{Kind: api.CallTouch, Token: tok, TTL: 30}, 12)
	s.Expires = 42
	b.wantPairs("touch", entryPair(one), entryPair(two), expiryPair(42, tok), ledgerPair(2, one, two), sessionPair(s), userPair("ada", tok))

	three := api.Entry{Number: 3, Kind: api.CallTouch, Tick: 12, Subject: tok}
	b.do(api.Call{Kind: api.CallTouch, Token: tok, TTL: 30}, 12) // up to the same tick
	b.wantPairs("touch again", entryPair(one), entryPair(two), entryPair(three), expiryPair(42, tok), ledgerPair(2, one, two, three), sessionPair(s), userPair("ada", tok))

	four := api.Entry{Number: 4, Kind: api.CallRevoke, Tick: 41, Subject: tok}
	b.do(api.Call{Kind: api.CallRevoke, Token: tok}, 41)
	b.wantPairs("revoke", entryPair(one), entryPair(two), entryPair(three), entryPair(four), ledgerPair(2, one, two, three, four))

	second := token(2, math.MaxUint64)
	five := api.Entry{Number: 5, Kind: api.CallCreate, Tick: 1 << 63, Subject: second}
	b.do(create("é", 9, math.MaxUint64), 1<<63)
	s = api.Session{Token: second, User: "é", Data: "x", Expires: 1<<63 - 1}
	b.wantPairs("create late", entryPair(one), entryPair(two), entryPair(three), entryPair(four), entryPair(five), expiryPair(1<<63-1, second), ledgerPair(3, one, two, three, four, five), sessionPair(s), userPair("é", second))
}

func TestRestOfATouch(t *testing.T) { // P25.1: of a session that changes the record by user is written, too
	b := newBench(t, 9)
	tok := b.create(0, "ada", 9, 10)
	b.d.Write([]api.Write{{Key: userPair("ada", tok).Key, Gone: true}, {Key: expiryPair(19, tok).Key, Gone: true}})
	want(t, "Agree", record.Agree(all(b.d)), api.ErrIndex)
	b.do(api.Call{Kind: api.CallTouch, Token: tok, TTL: 5}, 11)
}

// makeMany makes so many sessions, and lets the model do the same.
func (b *bench) makeMany(user string, n int, now uint64) {
	b.t.Helper()
	for i := range n {
		c := create(user, 90, uint64(i)*0x9E3779B97F4A7C15)
		a, e := svc.Do(b.d, b.l, c, now)
		want(b.t, "create", e, api.OK)
		wantAnswer(b.t, "create", a, b.w.Do(c, now))
	}
}

func TestRevokeMany(t *testing.T) { // P25.5: 256 at most, those of the least tokens
	for _, n := range []int{0, 1, 2, 256, 257} {
		for _, kind := range []int{api.CallRevokeUser, api.CallRevokeAll} {
			b := newBench(t, 999, 9)
			b.create(0, "eve", 90, 10)
			b.create(1, "ada", 90, 10)
			if kind == api.CallRevokeAll {
				b.do(api.Call{Kind: api.CallRevokeAll}, 10)
			}
			b.makeMany("ada", n, 10)
			b.check(11)
			ahead := len(b.w.Entries(0))
			c := api.Call{Kind: kind, User: "ada"}
			subject := map[int]string{api.CallRevokeUser: "ada"}[kind]
			want(t, fmt.Sprint("Revoked of ", n), b.do(c, 11).Revoked, min(n, 256))
			if n > 0 {
				want(t, "the entry", b.w.Entries(0)[ahead], api.Entry{Number: ahead + 1, Kind: kind, Tick: 11, Subject: subject})
			} else {
				want(t, "no entry", len(b.w.Entries(0)), ahead)
			}
			b.do(api.Call{Kind: api.CallList, User: "ada"}, 11)
			b.do(c, 12)
			b.do(c, 13)
			b.do(api.Call{Kind: api.CallStats}, 13)
		}
	}
}

func TestListMany(t *testing.T) { // P25.5: 256 at most, those of the least tokens
	b := newBench(t, 999)
	b.makeMany("ada", 255, 10)
	for i := range 3 {
		want(t, "Tokens", len(b.do(api.Call{Kind: api.CallList, User: "ada"}, 10).Tokens), min(255+i, 256))
		b.makeMany("ada", 1, 10)
	}
}

func TestTakenToken(t *testing.T) { // P25.7: where a session lies under the next token already it goes, with its records
	for _, old := range []api.Session{{User: "eve", Data: "y", Expires: 55}, {User: "ada", Expires: 19}, {User: "eve", Expires: 3}} {
		b := newBench(t, 9)
		tok := token(1, 7)
		old.Token = tok
		write(t, b.d, sessionPair(old), userPair(old.User, tok), expiryPair(old.Expires, tok))
		want(t, "Agree", record.Agree(all(b.d)), api.OK)
		b.do(create("ada", 9, 7), 10)
		b.do(api.Call{Kind: api.CallGet, Token: tok}, 10)
	}
}

func TestNextOfLedger(t *testing.T) { // P25.1: the number is the ledger's, and each create counts it on
	b := newBench(t, 9)
	write(t, b.d, api.Pair{Key: ledgerKey("b"), Value: ledgerValue(1<<40, 0, zeros)})
	for i := range 3 {
		a, e := svc.Do(b.d, b.l, create("ada", 9, 7), 10)
		want(t, "create", e, api.OK)
		want(t, "its token", a.Token, token(1<<40+uint64(i), 7))
		value, _ := b.d.Get(ledgerKey("b"), b.d.Info().Seq)
		want(t, "the ledger", strings.HasPrefix(value, eight(1<<40+uint64(i)+1)+eight(2*uint64(i)+1)), true)
		a, _ = svc.Do(b.d, b.l, api.Call{Kind: api.CallTouch, Token: a.Token, TTL: 9}, 10)
		want(t, "touch", a.Status, 200)
		a, _ = svc.Do(b.d, b.l, api.Call{Kind: api.CallStats}, 10)
		want(t, "Next", a.Next, 1<<40+i+1)
		want(t, "Total", a.Total, 2*i+2)
	}
}
