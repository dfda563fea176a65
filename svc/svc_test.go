package svc_test

import (
	"math"
	"strings"
	"testing"

	"atrium/api"
	"atrium/lsm"
	"atrium/svc"
)

func TestExampleQuota(t *testing.T) { // example 1
	b := newBench(t, 1)
	want(t, "the first one", b.do(create("ada", 9, 1), 10).Status, 201)
	want(t, "the second one", b.do(create("ada", 9, 2), 10), over)
}

func TestExampleConflict(t *testing.T) { // example 1
	d, l := fresh(t), some(9)
	x, y := prepare(t, d, l, create("ada", 9, 1), 10), prepare(t, d, l, create("ada", 9, 2), 10)
	want(t, "the first one", x.Commit(), api.OK)
	want(t, "the second one", y.Commit(), api.ErrConflict)
}

// wrongTenants is lists that cred.Check refuses.
func wrongTenants() [][]api.Tenant {
	many := make([]api.Tenant, 17)
	for i := range many {
		many[i] = api.Tenant{Name: strings.Repeat("a", i+1), Key: "k"}
	}
	return [][]api.Tenant{
		nil, {}, many, {{Key: "k"}}, {{Name: "No", Key: "k"}}, {{Name: "a"}}, {{Name: "a", Key: "k", Quota: -1}}, {{Name: "a", Key: "k"}, {Name: "a", Key: "l"}},
	}
}

// wantRefused is that a call is refused, and that nothing has changed.
func wantRefused(t *testing.T, what string, d *lsm.DB, l []api.Tenant, c api.Call, should api.Errno) {
	t.Helper()
	ahead := d.Info()
	o, e := svc.Prepare(d, l, c, 10)
	want(t, what+": Prepare", e, should)
	want(t, what+": the Op", o, nil)
	a, e := svc.Do(d, l, c, 10)
	want(t, what+": Do", e, should)
	wantAnswer(t, what+": Do", a, api.Answer{})
	want(t, what+": the engine", d.Info(), ahead)
}

func TestRefused(t *testing.T) { // P25.1, P25.3: no engine, no tenants, both
	d := fresh(t)
	for kind := range 11 {
		c := api.Call{Kind: kind, User: "ada", TTL: 9, From: 1}
		wantRefused(t, "no engine", nil, some(9), c, api.ErrArg)
		for _, l := range wrongTenants() {
			wantRefused(t, "wrong tenants", d, l, c, api.ErrArg)
			wantRefused(t, "both", nil, l, c, api.ErrArg)
		}
	}
	want(t, "nothing lies there", all(d), nil)
}

// wrong is a pair of which layer 22 refuses something.
type wrong struct {
	pair  api.Pair
	fault api.Errno
}

// wrongs is pairs that may not be, under one tenant's keys: of its ledger, its sessions, its entries.
func wrongs(tenant string) []wrong {
	var l []wrong
	add := func(fault api.Errno, key string, values ...string) {
		for _, v := range values {
			l = append(l, wrong{api.Pair{Key: key, Value: v}, fault})
		}
	}
	tok := token(5, 5)
	good := sessionValue(api.Session{User: "ada", Data: "x", Expires: 99})
	add(api.ErrRecord, ledgerKey(tenant), "", "x", zeros, ledgerValue(0, 1, zeros), ledgerValue(1, 0, zeros)+"x", ledgerValue(1, 0, zeros[1:]))
	add(api.ErrRecord, sessionKey(tenant, tok), "", "x", good[1:], good+"x", sessionValue(api.Session{Data: "x"}), sessionValue(api.Session{User: "ada", Data: "\xFF"}), sessionValue(api.Session{User: "ada", Data: strings.Repeat("x", 513)}))
	add(api.ErrPlace, sessionKey(tenant, "short"), good, "x")
	add(api.ErrPlace, sessionKey(tenant, tok[1:]+"="), good)
	add(api.ErrPlace, key(tenant, "s", textPart(tok), textPart("more")), good, "x")
	add(api.ErrPlace, key(tenant, "s", numberPart(7)), good)
	text := textOf(api.Entry{Number: 1, Kind: 1, Tick: 7, Subject: "s"})
	add(api.ErrRecord, entryKey(tenant, 1), "", "x", text[1:], text+"x", textOf(api.Entry{Number: 1}), textOf(api.Entry{Kind: 1}))
	add(api.ErrRecord, entryKey(tenant, 99), "x")
	add(api.ErrPlace, entryKey(tenant, 1<<63), text, "x")
	add(api.ErrPlace, key(tenant, "a", textPart("1")), text)
	return l
}

func TestWrongRecords(t *testing.T) { // P25.1: what reading the tenant's own records refuses
	l := some(9, 9, 9)
	for _, x := range wrongs("a") {
		d := fresh(t)
		write(t, d, x.pair)
		for kind := range 11 {
			c := api.Call{Kind: kind, Tenant: 1, User: "ada", TTL: 9, From: 1}
			wantRefused(t, "its own record", d, l, c, x.fault)
			c.User, c.TTL, c.From = "", 0, 0 // what a call says may be wrong besides
			wantRefused(t, "its own record", d, l, c, x.fault)
		}
	}
}

func TestWrongRecordsOfOthers(t *testing.T) { // P25.1: those of another tenant are not asked
	for _, x := range append(wrongs("b"), wrongs("a-")...) {
		d := fresh(t)
		write(t, d, x.pair)
		b := benchOn(t, d, 9, 9, 9)
		for kind := range 11 {
			c := api.Call{Kind: kind, Tenant: 1, User: "ada", TTL: 9, From: 1, Draw: 7, Token: token(1, 7)}
			a, e := svc.Do(d, b.l, c, 10)
			want(t, told(c, 10), e, api.OK)
			wantAnswer(t, told(c, 10), a, b.w.Do(c, 10))
			b.checkTold(1, 10)
		}
	}
}

func TestWrongOrder(t *testing.T) { // R2: of sessions a key that is none comes ahead of a value that is none
	d := fresh(t)
	write(t, d, api.Pair{Key: sessionKey("b", token(1, 1)), Value: "x"})
	wantRefused(t, "a value", d, some(9), create("ada", 9, 1), api.ErrRecord)
	write(t, d, api.Pair{Key: sessionKey("b", "short"), Value: "x"})
	wantRefused(t, "a key, too", d, some(9), create("ada", 9, 1), api.ErrPlace)
	s, e := svc.Live(d, "b", 0)
	want(t, "Live", e, api.ErrPlace)
	want(t, "Live", s, nil)
}

func TestWrongTenant(t *testing.T) { // P25.1: a Tenant that is none
	b := newBench(t, 9, 9)
	b.create(0, "ada", 9, 10)
	b.create(1, "ada", 9, 10)
	for _, tenant := range []int{-1, 2, 15, 16, math.MaxInt, math.MinInt} {
		for kind := range 11 {
			c := api.Call{Kind: kind, Tenant: tenant, User: "ada", Data: "x", TTL: 9, From: 1, Token: token(1, 7)}
			wantAnswer(t, told(c, 11), b.do(c, 11), bad)
			want(t, "Ready", prepare(t, b.d, b.l, c, 11).Ready(), true)
		}
	}
	write(t, b.d, api.Pair{Key: ledgerKey("b"), Value: "x"}) // nobody's records are read then
	wantAnswer(t, "nobody's", prepare(t, b.d, b.l, api.Call{Kind: 2, Tenant: 2}, 11).Answer(), bad)
}

func TestWrongKind(t *testing.T) { // P25.1: a Kind that is none
	b := newBench(t, 9)
	b.create(0, "ada", 9, 10)
	for _, kind := range []int{0, -1, 10, 11, math.MaxInt, math.MinInt} {
		c := api.Call{Kind: kind, User: "ada", Data: "x", TTL: 9, From: 1, Token: token(1, 7)}
		wantAnswer(t, told(c, 11), b.do(c, 11), bad)
	}
}

// names is users that may be, and that may not.
func names() []string {
	return []string{
		"ada", "a b", "é", strings.Repeat("a", 64), strings.Repeat("é", 32), "\"\\/", "", strings.Repeat("a", 65), "\xFF", "a\x00", "a\n", "\x7F", "\u2028", "\uFEFF",
	}
}

func TestCreateAsTheModel(t *testing.T) { // P25.5
	b := newBench(t, 500)
	for i, user := range names() {
		b.do(create(user, 9, uint64(i)), 10)
	}
	for i, ttl := range []int{1, 2, 1<<31 - 2, 1<<31 - 1, 1 << 31, 0, -1, math.MaxInt, math.MinInt} {
		b.do(create("ada", ttl, uint64(i)), 10)
	}
	for i, data := range []string{"", "x", "\x00\"\\\n", "é\u2028", strings.Repeat("x", 512), strings.Repeat("é", 256), strings.Repeat("x", 513), strings.Repeat("é", 257), "\xFF", "\xED\xA0\x80"} {
		c := create("ada", 9, uint64(i))
		c.Data = data
		b.do(c, 10)
	}
	for _, now := range []uint64{0, 1<<63 - 11, 1<<63 - 10, 1<<63 - 9, 1<<63 - 2, 1<<63 - 1, 1 << 63, math.MaxUint64 - 8, math.MaxUint64} {
		b.do(create("ada", 9, math.MaxUint64), now)
		b.do(api.Call{Kind: api.CallStats}, now)
	}
}

func TestOneSessionAsTheModel(t *testing.T) { // P25.5: get, touch, revoke
	b := newBench(t, 9, 9)
	tok, other := b.create(0, "ada", 5, 10), b.create(1, "eve", 5, 10)
	for _, kind := range []int{api.CallGet, api.CallTouch, api.CallRevoke} {
		for _, c := range []api.Call{
			{Token: ""}, {Token: "short"}, {Token: tok + "A"}, {Token: tok[1:]}, {Token: token(2, 7)}, {Token: other + "\x00"}, {Token: "\xFF"}, {Tenant: 1, Token: token(9, 9)},
		} {
			c.Kind, c.TTL = kind, 9
			wantAnswer(t, told(c, 11), b.do(c, 11), missing)
		}
	}
	for _, ttl := range []int{0, -1, 1 << 31, math.MinInt} {
		wantAnswer(t, "TTL", b.do(api.Call{Kind: api.CallTouch, Token: tok, TTL: ttl}, 11), bad)
		wantAnswer(t, "TTL of none", b.do(api.Call{Kind: api.CallTouch, Token: "none", TTL: ttl}, 11), bad)
	}
	for _, now := range []uint64{0, 9, 14, 15, 16, math.MaxUint64} { // it lives up to 15
		b.do(api.Call{Kind: api.CallGet, Token: tok}, now)
	}
	wantAnswer(t, "at 15", b.do(api.Call{Kind: api.CallTouch, Token: tok, TTL: 9}, 15), missing)
	wantAnswer(t, "at 15", b.do(api.Call{Kind: api.CallRevoke, Token: tok}, 15), missing)
	wantAnswer(t, "at 14", b.do(api.Call{Kind: api.CallTouch, Token: tok, TTL: 6}, 14), api.Answer{Status: 200, Expires: 20})
	wantAnswer(t, "get", b.do(api.Call{Kind: api.CallGet, Token: tok}, 19), api.Answer{Status: 200, User: "ada", Data: "x", Expires: 20})
	b.do(api.Call{Kind: api.CallTouch, Token: tok, TTL: 1}, 12) // shorter than it was
	wantAnswer(t, "at 13", b.do(api.Call{Kind: api.CallGet, Token: tok}, 13), missing)
	wantAnswer(t, "revoke", b.do(api.Call{Kind: api.CallRevoke, Token: tok}, 12), api.Answer{Status: 204})
	wantAnswer(t, "revoke again", b.do(api.Call{Kind: api.CallRevoke, Token: tok}, 12), missing)
	b.do(api.Call{Kind: api.CallTouch, Tenant: 1, Token: other, TTL: 1<<31 - 1}, 1<<62)
	b.do(api.Call{Kind: api.CallTouch, Tenant: 1, Token: other, TTL: 9}, 13)
	b.do(api.Call{Kind: api.CallTouch, Tenant: 1, Token: other, TTL: 1<<31 - 1}, 21)
}

func TestQuotaAsTheModel(t *testing.T) { // P25.5
	b := newBench(t, 0, 1, 3)
	for i := range 3 {
		for now := range uint64(14) {
			c := create("ada", 1+int(now)%4, now)
			c.Tenant = i
			b.do(c, now)
		}
		b.do(api.Call{Kind: api.CallStats, Tenant: i}, 12)
	}
	c := create("ada", 2, 5)
	c.Tenant = 2
	b.do(c, 2) // where the clock was turned back more live
}

func TestUsersAsTheModel(t *testing.T) { // P25.5: lists, and revoking by user
	b := newBench(t, 500, 500)
	for _, user := range names() { // nobody has any
		b.do(api.Call{Kind: api.CallRevokeUser, User: user}, 10)
		b.do(api.Call{Kind: api.CallList, User: user}, 10)
	}
	for i := range 40 {
		b.create(i%2, []string{"ada", "eve", "é"}[i%3], 5+i%7, 10)
	}
	for now := uint64(14); now < 19; now++ {
		for _, user := range append(names(), "eve") {
			b.do(api.Call{Kind: api.CallList, User: user}, now)
			b.do(api.Call{Kind: api.CallStats}, now)
		}
	}
	want(t, "those of ada", b.do(api.Call{Kind: api.CallRevokeUser, User: "ada"}, 15).Revoked > 0, true)
	want(t, "again", b.do(api.Call{Kind: api.CallRevokeUser, User: "ada"}, 15), api.Answer{Status: 200})
	want(t, "those that lived no more, earlier", b.do(api.Call{Kind: api.CallRevokeUser, User: "ada"}, 10).Revoked > 0, true)
	want(t, "all", b.do(api.Call{Kind: api.CallRevokeAll}, 16).Revoked > 0, true)
	want(t, "again", b.do(api.Call{Kind: api.CallRevokeAll}, 16), api.Answer{Status: 200})
}

func TestAuditAsTheModel(t *testing.T) { // P25.5
	b := newBench(t, 500, 500)
	for n := range 36 {
		if n > 0 {
			b.create(0, "ada", 5, uint64(n))
		}
		for _, from := range []int{math.MinInt, -1, 0, 1, 2, n - 16, n - 15, n - 14, n - 1, n, n + 1, math.MaxInt} {
			b.do(api.Call{Kind: api.CallAudit, From: from}, 10)
		}
	}
	a := b.do(api.Call{Kind: api.CallAudit, From: 7}, 10)
	want(t, "how many", len(a.Entries), 16)
	want(t, "the first one", a.Entries[0].Number, 7)
	want(t, "Head", a.Head, hexHead(b.w.Entries(0)))
	want(t, "Head of none", b.do(api.Call{Kind: api.CallAudit, Tenant: 1, From: 1}, 10).Head, strings.Repeat("0", 64))
}

func TestReady(t *testing.T) { // P25.1: who is ready, and what is told ahead of a commit
	b := newBench(t, 2)
	tok := b.create(0, "ada", 5, 10)
	ahead := b.d.Info()
	for _, x := range []struct {
		c     api.Call
		ready bool
	}{
		{create("ada", 9, 8), false}, {create("", 9, 8), true}, {create("ada", 0, 8), true},
		{api.Call{Kind: api.CallGet, Token: tok}, true}, {api.Call{Kind: api.CallGet, Token: "none"}, true},
		{api.Call{Kind: api.CallTouch, Token: tok, TTL: 5}, false}, {api.Call{Kind: api.CallTouch, Token: tok}, true}, {api.Call{Kind: api.CallTouch, Token: "none", TTL: 5}, true},
		{api.Call{Kind: api.CallRevoke, Token: tok}, false}, {api.Call{Kind: api.CallRevoke, Token: "none"}, true},
		{api.Call{Kind: api.CallRevokeUser, User: "ada"}, false}, {api.Call{Kind: api.CallRevokeUser, User: "eve"}, true}, {api.Call{Kind: api.CallRevokeUser}, true},
		{api.Call{Kind: api.CallRevokeAll}, false},
		{api.Call{Kind: api.CallList, User: "ada"}, true}, {api.Call{Kind: api.CallAudit, From: 1}, true}, {api.Call{Kind: api.CallStats}, true},
	} {
		o := prepare(t, b.d, b.l, x.c, 14)
		want(t, told(x.c, 14)+": Ready", o.Ready(), x.ready)
		wantAnswer(t, told(x.c, 14), o.Answer(), b.w.Fork().Do(x.c, 14))
		wantAnswer(t, told(x.c, 14)+" again", o.Answer(), b.w.Fork().Do(x.c, 14))
		if x.ready {
			want(t, "Commit", o.Commit(), api.ErrClosed)
		}
		o.Abort()
		want(t, "the engine", b.d.Info(), ahead)
	}
	want(t, "nobody lives", prepare(t, b.d, b.l, api.Call{Kind: api.CallRevokeAll}, 15).Ready(), true)
	want(t, "nobody lives", prepare(t, b.d, b.l, api.Call{Kind: api.CallRevokeUser, User: "ada"}, 15).Ready(), true)
	b.create(0, "ada", 9, 10)
	want(t, "over the quota", prepare(t, b.d, b.l, create("ada", 9, 8), 14).Ready(), true)
	b.check(14)
}

func TestSnapshots(t *testing.T) { // P25.1: the transaction of one that is ready has ended, that of another one has not
	b := newBench(t, 9)
	b.create(0, "ada", 5, 10)
	at := b.d.Info().Seq
	prepare(t, b.d, b.l, api.Call{Kind: api.CallStats}, 10)
	o := prepare(t, b.d, b.l, create("ada", 5, 8), 10)
	write(t, b.d, api.Pair{Key: "other", Value: "x"})
	want(t, "one waits", b.d.Info().Oldest, at)
	o.Abort()
	want(t, "none waits", b.d.Info().Oldest, at+1)
	o = prepare(t, b.d, b.l, create("ada", 5, 8), 10)
	write(t, b.d, api.Pair{Key: "other", Value: "y"})
	want(t, "one waits", b.d.Info().Oldest, at+1)
	want(t, "Commit", o.Commit(), api.OK)
	want(t, "none waits", b.d.Info().Oldest, at+3)
}

func TestNewMemory(t *testing.T) { // R3: what was told may be changed, and what was handed in is not
	b := newBench(t, 9)
	for range 5 {
		b.create(0, "ada", 50, 10)
	}
	for _, c := range []api.Call{{Kind: api.CallList, User: "ada"}, {Kind: api.CallAudit, From: 1}} {
		o := prepare(t, b.d, b.l, c, 10)
		should := b.w.Do(c, 10)
		for range 2 {
			a := o.Answer()
			wantAnswer(t, told(c, 10), a, should)
			clear(a.Tokens[:cap(a.Tokens)])
			clear(a.Entries[:cap(a.Entries)])
		}
	}
	s, _ := svc.Live(b.d, "b", 10)
	n, _ := svc.Entries(b.d, "b")
	clear(s[:cap(s)])
	clear(n[:cap(n)])
	l := append(some(9), some(1, 2)...)
	o := prepare(t, b.d, l[:1], create("ada", 5, 7), 10)
	want(t, "tenants", l, append(some(9), some(1, 2)...))
	l[0] = api.Tenant{Name: "turned"}
	want(t, "Commit", o.Commit(), api.OK)
	b.w.Do(create("ada", 5, 7), 10)
	b.check(10)
}

func TestNilOp(t *testing.T) { // P25.2
	var o *svc.Op
	for _, o := range []*svc.Op{o, {}} {
		want(t, "Ready", o.Ready(), false)
		wantAnswer(t, "Answer", o.Answer(), api.Answer{})
		want(t, "Commit", o.Commit(), api.ErrClosed)
		o.Abort()
	}
}
