package model_test

import (
	"fmt"
	"strings"
	"testing"

	"atrium/api"
)

// The calls of one token.
func get(k string) api.Call    { return api.Call{Kind: api.CallGet, Token: k} }
func revoke(k string) api.Call { return api.Call{Kind: api.CallRevoke, Token: k} }
func touch(k string, ttl int) api.Call {
	return api.Call{Kind: api.CallTouch, Token: k, TTL: ttl}
}

func TestTokens(t *testing.T) { // P23.1: one that lives, that expires, that is gone, that is another's, that is none
	p := fresh(t, 9, 9)
	k := p.create("ada", 5, 10)
	gone := p.create("ada", 50, 10)
	p.told(revoke(gone), 11, api.Answer{Status: 204})
	dropped := p.create("bob", 50, 10)
	p.do(api.Call{Kind: api.CallRevokeUser, User: "bob"}, 11)
	other := p.do(api.Call{Kind: api.CallCreate, Tenant: 1, User: "ada", TTL: 50, Draw: 5}, 10).Token
	p.check(11)
	for _, x := range []struct {
		token string
		now   uint64
		lives bool
	}{
		{k, 0, true}, {k, 9, true}, {k, 10, true}, {k, 14, true}, {k, 15, false}, {k, 16, false}, {k, 1<<64 - 1, false},
		{gone, 10, false}, {gone, 11, false}, {gone, 12, false}, {gone, 0, false}, {dropped, 0, false}, {dropped, 11, false},
		{other, 11, false}, {token(1, 5), 11, false},
		{"", 11, false}, {"x", 11, false}, {strings.Repeat("A", 22), 11, false}, {token(4, 77), 11, false}, {token(1, 78), 11, false}, {k + "A", 11, false}, {k[:21], 11, false}, {" " + k, 11, false}, {strings.ToLower(k), 11, false}, {k + "\x00", 11, false},
		{"ada", 11, false}, {"\xFF", 11, false},
	} {
		for _, c := range []api.Call{get(x.token), touch(x.token, 9), revoke(x.token)} {
			q := &play{t: t, w: p.w.Fork()}
			for _, s := range p.s {
				own := *s
				own.sessions = append([]api.Session(nil), s.sessions...)
				own.entries = append([]api.Entry(nil), s.entries...)
				q.s = append(q.s, &own)
			}
			a := q.do(c, x.now)
			want(t, fmt.Sprintf("kind %d of %q at %d", c.Kind, x.token, x.now), a.Status < 400, x.lives)
			if !x.lives {
				wantAnswer(t, "refused", a, missing)
				want(t, "nothing has changed", standing(q.w, 2), standing(p.w, 2))
			}
			q.check(0, x.now, 11, 15)
		}
	}
}

func TestGet(t *testing.T) { // P23.1: User, Data and Expires; no other field
	p := fresh(t, 9)
	for i, data := range []string{"", "x", strings.Repeat("é", 256)} {
		user := fmt.Sprint("user ", i)
		a := p.do(api.Call{Kind: api.CallCreate, User: user, Data: data, TTL: 9 + i, Draw: uint64(i)}, 10)
		p.told(get(a.Token), 11, api.Answer{Status: 200, User: user, Data: data, Expires: 19 + uint64(i)})
	}
	p.check(11)
}

func TestTouch(t *testing.T) { // P23.1: longer, shorter, again, at each end of TTL
	p := fresh(t, 9)
	k, other := p.create("ada", 5, 10), p.create("ada", 5, 10)
	for i, x := range []struct {
		ttl     int
		now     uint64
		expires uint64
	}{
		{5, 10, 15}, {9, 14, 23}, {1, 22, 23}, {1<<31 - 1, 22, 22 + 1<<31 - 1}, {3, 1 << 30, 1<<30 + 3}, {7, 12, 19}, {1, 0, 1},
	} {
		p.told(touch(k, x.ttl), x.now, api.Answer{Status: 200, Expires: x.expires})
		p.told(get(k), x.expires-1, api.Answer{Status: 200, User: "ada", Data: "x", Expires: x.expires})
		p.told(get(k), x.expires, missing)
		want(t, "the entry", p.w.Entries(0)[i+2], api.Entry{Number: i + 3, Kind: api.CallTouch, Tick: x.now, Subject: k})
		p.check(x.now, x.expires-1, x.expires)
	}
	p.told(get(other), 14, api.Answer{Status: 200, User: "ada", Data: "x", Expires: 15})
	want(t, "Next", p.w.Next(0), 3)
}

func TestTouchTwoWrongs(t *testing.T) { // R2: 400 comes ahead of 404
	p := fresh(t, 9)
	k := p.create("ada", 5, 10)
	for _, ttl := range []int{-1 << 63, -1, 0, 1 << 31, 1<<63 - 1} {
		p.told(touch(k, ttl), 11, bad)
		p.told(touch("none", ttl), 11, bad)
		p.told(touch(k, ttl), 15, bad)
		p.told(touch("", ttl), 11, bad)
	}
	for _, ttl := range []int{1, 1<<31 - 1} {
		p.told(touch("none", ttl), 11, missing)
		p.told(touch(k, ttl), 15, missing)
	}
	p.check(11)
	p.told(touch(k, 0), 14, bad)
	p.told(touch(k, 1), 14, api.Answer{Status: 200, Expires: 15})
}

func TestRevoke(t *testing.T) { // P23.1, P23.6: it is gone, and never there again
	p := fresh(t, 9)
	k, other := p.create("ada", 5, 10), p.create("ada", 5, 10)
	p.told(revoke(k), 12, api.Answer{Status: 204})
	want(t, "the entry", p.w.Entries(0)[2], api.Entry{Number: 3, Kind: api.CallRevoke, Tick: 12, Subject: k})
	for _, now := range []uint64{0, 10, 12, 13, 15, 20} {
		p.told(get(k), now, missing)
		p.told(revoke(k), now, missing)
		p.told(touch(k, 9), now, missing)
	}
	p.told(get(other), 12, api.Answer{Status: 200, User: "ada", Data: "x", Expires: 15})
	for range 5 { // further ones have other numbers: no draw makes its token again
		p.create("ada", 5, 12)
		p.told(get(k), 12, missing)
	}
	p.check(10, 12)
}

func TestTime(t *testing.T) { // P23.6: what does not live does not live later, but by a call
	p := fresh(t, 9)
	k := p.create("ada", 5, 10)
	for now := uint64(0); now < 40; now++ {
		want(t, fmt.Sprint("at ", now), len(p.w.Live(0, now)) == 1, now < 15)
	}
	p.told(touch(k, 20), 14, api.Answer{Status: 200, Expires: 34})
	for now := uint64(0); now < 40; now++ {
		want(t, fmt.Sprint("at ", now), len(p.w.Live(0, now)) == 1, now < 34)
	}
}
