package model_test

import (
	"fmt"
	"math"
	"strings"
	"testing"

	"atrium/api"
)

// creates is a create that may be.
func creates() api.Call {
	return api.Call{Kind: api.CallCreate, User: "ada", Data: "x", TTL: 5}
}

func TestCreateUsers(t *testing.T) { // P23.1: a User that is a name, or not
	for _, x := range []struct {
		user   string
		status int
	}{
		{"a", 201}, {"ada", 201}, {" ", 201}, {"ada lovelace", 201}, {"é", 201}, {"\u20ac", 201}, {"\U0001F600", 201}, {"\ufffd", 201}, {"a/b", 201}, {`"`, 201},
		{strings.Repeat("a", 64), 201}, {strings.Repeat("é", 32), 201}, {strings.Repeat("\U0001F600", 16), 201}, {"\u00a0", 201}, {"~", 201},
		{"", 400}, {strings.Repeat("a", 65), 400}, {strings.Repeat("é", 32) + "a", 400}, {strings.Repeat("a", 5000), 400},
		{"\x00", 400}, {"a\x00", 400}, {"\x1F", 400}, {"a\nb", 400}, {"\x7F", 400}, {"\u0080", 400}, {"\u009F", 400}, {"a\u2028", 400}, {"\u2029", 400}, {"\uFEFFa", 400},
		{"\xFF", 400}, {"a\xC3", 400}, {"\xC0\x80", 400}, {"\xED\xA0\x80", 400}, {"\xF4\x90\x80\x80", 400},
	} {
		p := fresh(t, 1)
		c := creates()
		c.User = x.user
		a := p.do(c, 1)
		want(t, fmt.Sprintf("user %q", x.user), a.Status, x.status)
		if x.status == 400 {
			wantAnswer(t, "refused", a, bad)
		} else {
			want(t, "it has it", p.w.Live(0, 1), []api.Session{{Token: token(1, 0), User: x.user, Data: "x", Expires: 6}})
		}
		p.check(1, 5, 6)
	}
}

func TestCreateData(t *testing.T) { // P23.1: Data of 512 and 513 bytes, and not right
	for _, x := range []struct {
		data   string
		status int
	}{
		{"", 201}, {"x", 201}, {"\x00\x1F\x7F", 201}, {"\ufeff\u2028", 201}, {strings.Repeat("d", 511), 201}, {strings.Repeat("d", 512), 201}, {strings.Repeat("é", 256), 201}, {strings.Repeat("\x00", 512), 201},
		{strings.Repeat("d", 513), 400}, {"d" + strings.Repeat("é", 256), 400}, {strings.Repeat("d", 100000), 400},
		{"\xFF", 400}, {"d\xC3", 400}, {"\xA9", 400}, {"\xC1\xBF", 400}, {"\xED\xBF\xBF", 400}, {strings.Repeat("d", 511) + "\xC3", 400},
	} {
		p := fresh(t, 1)
		c := creates()
		c.Data = x.data
		a := p.do(c, 1)
		want(t, fmt.Sprintf("data %.20q of %d", x.data, len(x.data)), a.Status, x.status)
		if x.status == 201 {
			p.told(api.Call{Kind: api.CallGet, Token: a.Token}, 1, api.Answer{Status: 200, User: "ada", Data: x.data, Expires: 6})
		} else {
			wantAnswer(t, "refused", a, bad)
		}
		p.check(1)
	}
}

func TestCreateTTL(t *testing.T) { // P23.1: 1 to 2^31 - 1
	for _, x := range []struct {
		ttl    int
		status int
	}{
		{math.MinInt, 400}, {-1 << 31, 400}, {-1, 400}, {0, 400}, {1, 201}, {2, 201}, {1<<31 - 2, 201}, {1<<31 - 1, 201}, {1 << 31, 400}, {1<<32 + 1, 400}, {math.MaxInt, 400},
	} {
		p := fresh(t, 1)
		c := creates()
		c.TTL = x.ttl
		a := p.do(c, 7)
		want(t, fmt.Sprint("TTL ", x.ttl), a.Status, x.status)
		if x.status == 201 {
			wantAnswer(t, "told", a, api.Answer{Status: 201, Token: token(1, 0), Expires: 7 + uint64(x.ttl)})
		} else {
			wantAnswer(t, "refused", a, bad)
		}
		p.check(7, 8, 7+1<<31, 6+1<<31)
	}
}

func TestCreateTokens(t *testing.T) { // P23.1: the next number and the draw; what is refused takes no number
	p := fresh(t, 100)
	for i, draw := range []uint64{0, 0, 1, 1 << 63, math.MaxUint64, 77, 77} {
		c := creates()
		c.Draw = draw
		number := uint64(i + 1)
		p.told(c, 7, api.Answer{Status: 201, Token: token(number, draw), Expires: 12})
		c.User = ""
		p.told(c, 7, bad)
		want(t, "Next", p.w.Next(0), i+2)
		l := p.w.Entries(0)
		want(t, "the entry", l[i], api.Entry{Number: i + 1, Kind: api.CallCreate, Tick: 7, Subject: token(number, draw)})
	}
	p.check(7)
}

func TestQuotaNone(t *testing.T) { // P23.1: a quota of 0
	p := fresh(t, 0)
	for _, now := range []uint64{0, 1, 1 << 63, math.MaxUint64} {
		p.told(creates(), now, over)
	}
	c := creates()
	c.TTL = 0
	p.told(c, 1, bad)
	p.check(0)
}

func TestQuotaFull(t *testing.T) { // P23.1, P23.7: one that is just full
	for quota := 1; quota < 6; quota++ {
		p := fresh(t, quota)
		var l []string
		for range quota {
			p.told(api.Call{Kind: api.CallStats}, 10, api.Answer{Status: 200, Live: len(l), Users: min(len(l), 1), Total: len(l), Next: len(l) + 1})
			l = append(l, p.create("ada", 5+len(l), 10)) // they expire one behind the other
		}
		p.told(creates(), 10, over)
		p.told(creates(), 14, over)
		p.create("bob", 50, 15) // the first one lives no more
		p.told(creates(), 15, over)
		p.do(api.Call{Kind: api.CallRevokeUser, User: "bob"}, 15)
		p.create("eve", 1, 15)
		p.told(creates(), 15, over)
		p.create("eve", 1, 1000) // nobody lives any more
		want(t, "Live", len(p.w.Live(0, 1000)), 1)
		p.check(10, 15, 16, 1000)
	}
}

func TestQuotaOfExpired(t *testing.T) { // P23.1: as many as one likes that live no more; a touched one counts on
	p := fresh(t, 2)
	for i := range 50 {
		p.create("ada", 1, uint64(i))
	}
	k := p.create("ada", 1, 50)
	p.told(api.Call{Kind: api.CallTouch, Token: k, TTL: 10}, 50, api.Answer{Status: 200, Expires: 60})
	p.create("ada", 1, 51)
	p.told(creates(), 51, over)
	p.create("ada", 1, 52)
	p.told(creates(), 52, over)
	p.check(0, 49, 50, 51, 52, 60)
}

func TestQuotaBack(t *testing.T) { // P23.1: where ticks fall more than the quota may live
	p := fresh(t, 1)
	p.create("ada", 5, 10)
	p.create("ada", 5, 15)
	want(t, "Live", len(p.w.Live(0, 12)), 2)
	p.told(creates(), 12, over)
	p.told(api.Call{Kind: api.CallStats}, 12, api.Answer{Status: 200, Live: 2, Users: 1, Total: 2, Next: 3})
	p.check(12)
}

func TestLatest(t *testing.T) { // P23.1: now and TTL together at 2^63 - 1, and above it
	const latest = 1<<63 - 1
	for _, x := range []struct {
		now     uint64
		ttl     int
		expires uint64
	}{
		{latest - 6, 5, latest - 1}, {latest - 5, 5, latest}, {latest - 4, 5, latest}, {latest - 1, 1, latest}, {latest - 1, 2, latest}, {latest - 1, 1<<31 - 1, latest},
		{latest, 1, latest}, {latest, 5, latest}, {latest + 1, 1, latest}, {1<<64 - 6, 5, latest}, {1<<64 - 5, 5, latest}, {1<<64 - 1, 1, latest}, {1<<64 - 1, 1<<31 - 1, latest}, {1<<64 - 1<<31, 1<<31 - 1, latest},
		{latest - (1<<31 - 1), 1<<31 - 1, latest}, {latest - 1<<31, 1<<31 - 1, latest - 1}, {0, 1, 1}, {0, 1<<31 - 1, 1<<31 - 1},
	} {
		p := fresh(t, 1)
		c := creates()
		c.TTL = x.ttl
		p.told(c, x.now, api.Answer{Status: 201, Token: token(1, 0), Expires: x.expires})
		if x.now < x.expires {
			p.told(c, x.now, over)
			p.told(api.Call{Kind: api.CallTouch, Token: token(1, 0), TTL: x.ttl}, x.now, api.Answer{Status: 200, Expires: x.expires})
		} else { // what does not live at once fills no quota
			p.told(c, x.now, api.Answer{Status: 201, Token: token(2, 0), Expires: x.expires})
			p.told(api.Call{Kind: api.CallTouch, Token: token(1, 0), TTL: x.ttl}, x.now, missing)
		}
		p.check(x.now, x.expires-1, x.expires, latest-1, latest, latest+1, math.MaxUint64)
	}
	p := fresh(t, 1) // a touch goes as far
	k := p.create("ada", 1<<31-1, latest-9)
	p.told(api.Call{Kind: api.CallTouch, Token: k, TTL: 8}, latest-9, api.Answer{Status: 200, Expires: latest - 1})
	p.told(api.Call{Kind: api.CallTouch, Token: k, TTL: 8}, latest-2, api.Answer{Status: 200, Expires: latest})
	p.told(api.Call{Kind: api.CallGet, Token: k}, latest-1, api.Answer{Status: 200, User: "ada", Data: "x", Expires: latest})
	p.told(api.Call{Kind: api.CallGet, Token: k}, latest, missing)
}

func TestCreateTwoWrongs(t *testing.T) { // R2: 400 comes ahead of 429
	p := fresh(t, 1, 0)
	p.create("ada", 50, 1)
	for tenant := range 2 {
		c := creates()
		c.Tenant = tenant
		p.told(c, 1, over)
		for _, turn := range []func(*api.Call){
			func(c *api.Call) { c.User = "" },
			func(c *api.Call) { c.Data = strings.Repeat("d", 513) },
			func(c *api.Call) { c.Data = "\xFF" },
			func(c *api.Call) { c.TTL = 0 },
			func(c *api.Call) { c.TTL = 1 << 31 },
			func(c *api.Call) { c.User, c.Data, c.TTL = "\x00", "\xFF", -1 },
		} {
			x := c
			turn(&x)
			p.told(x, 1, bad)
		}
	}
	p.check(1)
}
