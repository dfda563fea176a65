package route_test

import (
	"math"
	"math/rand"
	"strings"
	"testing"

	"atrium/api"
	"atrium/route"
)

func TestTarget(t *testing.T) { // P20.3, P20.4
	wantTarget(t, api.Route{Kind: api.CallCreate}, "POST", "/sessions")
	wantTarget(t, api.Route{Kind: api.CallGet, Token: "t"}, "GET", "/sessions/t")
	wantTarget(t, api.Route{Kind: api.CallTouch, Token: "t"}, "POST", "/sessions/t/touch")
	wantTarget(t, api.Route{Kind: api.CallRevoke, Token: "t"}, "DELETE", "/sessions/t")
	wantTarget(t, api.Route{Kind: api.CallRevokeUser, User: "u"}, "DELETE", "/users/u/sessions")
	wantTarget(t, api.Route{Kind: api.CallRevokeAll}, "DELETE", "/sessions")
	wantTarget(t, api.Route{Kind: api.CallList, User: "u"}, "GET", "/users/u/sessions")
	wantTarget(t, api.Route{Kind: api.CallAudit}, "GET", "/audit?from=0")
	wantTarget(t, api.Route{Kind: api.CallAudit, From: 1}, "GET", "/audit?from=1")
	wantTarget(t, api.Route{Kind: api.CallGet, Me: true}, "GET", "/me")
	wantTarget(t, api.Route{Kind: api.CallStats}, "GET", "/stats")
}

func TestTargetEscapes(t *testing.T) { // P20.3: each byte, and texts
	for b := range 256 {
		c := one(b)
		escaped := "%" + strings.ToUpper(hex(b))
		if strings.Contains("abcdefghijklmnopqrstuvwxyzABCDEFGHIJKLMNOPQRSTUVWXYZ0123456789-._~", c) {
			escaped = c
		}
		wantTarget(t, api.Route{Kind: api.CallGet, Token: c}, "GET", "/sessions/"+escaped)
		wantTarget(t, api.Route{Kind: api.CallTouch, Token: "a" + c + "b"}, "POST", "/sessions/a"+escaped+"b/touch")
		wantTarget(t, api.Route{Kind: api.CallList, User: c + c}, "GET", "/users/"+escaped+escaped+"/sessions")
	}
	wantTarget(t, api.Route{Kind: api.CallList, User: "a b"}, "GET", "/users/a%20b/sessions")
	wantTarget(t, api.Route{Kind: api.CallGet, Token: "a/b"}, "GET", "/sessions/a%2Fb")
	wantTarget(t, api.Route{Kind: api.CallRevoke, Token: "a?b=c&d#%"}, "DELETE", "/sessions/a%3Fb%3Dc%26d%23%25")
	wantTarget(t, api.Route{Kind: api.CallRevokeUser, User: "é"}, "DELETE", "/users/%C3%A9/sessions")
	wantTarget(t, api.Route{Kind: api.CallGet, Token: "sessions"}, "GET", "/sessions/sessions")
	wantTarget(t, api.Route{Kind: api.CallGet, Token: "%2F"}, "GET", "/sessions/%252F")
	wantTarget(t, api.Route{Kind: api.CallGet, Token: ".."}, "GET", "/sessions/..")
}

func TestTargetOfKinds(t *testing.T) { // P20.3: others, and Me of each
	for _, kind := range []int{math.MinInt, -9, -1, 0, 10, 11, 18, 255, 256, 257, 258, 1 << 32, 1<<32 + 1, math.MaxInt} {
		for _, x := range []api.Route{{}, {Token: "t"}, {User: "u"}, {From: 1}, {Me: true}} {
			x.Kind = kind
			wantNoTarget(t, x)
		}
	}
	wantNoTarget(t, api.Route{})
	for kind := 1; kind <= 9; kind++ {
		for _, x := range []api.Route{{}, {Token: "t"}, {User: "u"}, {From: 1}, {Token: "t", User: "u", From: 1}} {
			x.Kind, x.Me = kind, true
			if x == (api.Route{Kind: 2, Me: true}) {
				wantTarget(t, x, "GET", "/me")
			} else {
				wantNoTarget(t, x)
			}
		}
	}
}

func TestTargetOfFields(t *testing.T) { // P20.3: just those that a route has, each there and not there
	for kind := 1; kind <= 9; kind++ {
		hasToken, hasUser, hasFrom := kind >= 2 && kind <= 4, kind == 5 || kind == 7, kind == 8
		for n := range 2 * 2 * 6 {
			x := api.Route{Kind: kind, Token: []string{"", "t"}[n%2], User: []string{"", "u"}[n/2%2], From: []int{0, 1, -1, 999999999, 1000000000, math.MinInt}[n/4]}
			may := (x.Token != "") == hasToken && (x.User != "") == hasUser && (x.From == 0 || hasFrom && x.From > 0 && x.From <= 999999999)
			m, s, ok := route.Target(x)
			if ok != may {
				t.Errorf("Target of %+v: %s %s, %v", x, m, s, ok)
			}
			if !may {
				wantNoTarget(t, x)
			} else {
				wantTarget(t, x, m, s)
			}
		}
	}
	wantNoTarget(t, api.Route{Kind: api.CallGet})
	wantNoTarget(t, api.Route{Kind: api.CallGet, Token: "t", From: 1})
	wantNoTarget(t, api.Route{Kind: api.CallGet, Token: "t", User: "u"})
	wantNoTarget(t, api.Route{Kind: api.CallList, User: "u", Token: "t"})
	wantNoTarget(t, api.Route{Kind: api.CallCreate, User: "u"})
	wantNoTarget(t, api.Route{Kind: api.CallAudit, From: 1, User: "u"})
	wantNoTarget(t, api.Route{Kind: api.CallGet, Token: "t", Me: true})
}

func TestTargetFrom(t *testing.T) { // P20.3
	for n, s := range map[int]string{0: "0", 1: "1", 9: "9", 10: "10", 99999: "99999", 999999998: "999999998", 999999999: "999999999"} {
		wantTarget(t, api.Route{Kind: api.CallAudit, From: n}, "GET", "/audit?from="+s)
	}
	for _, n := range []int{-1, -2, math.MinInt, 1000000000, 1000000001, 1 << 32, 1<<32 + 1, 1 << 62, math.MaxInt} {
		wantNoTarget(t, api.Route{Kind: api.CallAudit, From: n})
	}
}

func TestTargetLengths(t *testing.T) { // P20.3: 1024 bytes, and one more
	for _, x := range []struct {
		kind        int
		method      string
		ahead, tail string
		user        bool
	}{
		{api.CallGet, "GET", "/sessions/", "", false},
		{api.CallTouch, "POST", "/sessions/", "/touch", false},
		{api.CallRevoke, "DELETE", "/sessions/", "", false},
		{api.CallRevokeUser, "DELETE", "/users/", "/sessions", true},
		{api.CallList, "GET", "/users/", "/sessions", true},
	} {
		room := 1024 - len(x.ahead) - len(x.tail)
		of := func(piece string) api.Route {
			if x.user {
				return api.Route{Kind: x.kind, User: piece}
			}
			return api.Route{Kind: x.kind, Token: piece}
		}
		for _, n := range []int{1, room - 1, room} {
			wantTarget(t, of(strings.Repeat("p", n)), x.method, x.ahead+strings.Repeat("p", n)+x.tail)
		}
		for _, n := range []int{room + 1, room + 2, 2000, 100000} {
			wantNoTarget(t, of(strings.Repeat("p", n)))
		}
		n, over := room/3, room%3 // what is escaped counts three times
		wantTarget(t, of(strings.Repeat("/", n)+strings.Repeat("p", over)), x.method, x.ahead+strings.Repeat("%2F", n)+strings.Repeat("p", over)+x.tail)
		wantNoTarget(t, of(strings.Repeat("/", n)+strings.Repeat("p", over+1)))
		wantNoTarget(t, of(strings.Repeat("/", n+1)))
	}
}

func TestTargetPlays(t *testing.T) { // P20.3, P20.4
	r := rand.New(rand.NewSource(203))
	routes := 0
	for range 50000 {
		piece := make([]byte, r.Intn(6))
		r.Read(piece)
		x := api.Route{Kind: r.Intn(11), Me: r.Intn(8) == 0}
		if r.Intn(2) == 0 {
			x.Token = string(piece)
		}
		if r.Intn(3) == 0 {
			x.User = string(piece)
		}
		if r.Intn(3) == 0 {
			x.From = r.Intn(1100000000) - 50000000
		}
		m, s, ok := route.Target(x)
		should, is := expected(x)
		want(t, "is it one", ok, is)
		want(t, "its target", m+" "+s, should)
		if ok {
			routes++
			wantFound(t, m, s, x)
			for _, method := range methods() { // and no other route has both
				if other, status := route.Find(method, s); method != m && status == 200 && other == x {
					t.Errorf("%s %s: %+v", method, s, other)
				}
			}
		}
	}
	if routes < 2000 {
		t.Errorf("%d routes", routes)
	}
}

// expected is what the chapter's table says of a route: told by which fields are there.
func expected(x api.Route) (string, bool) {
	escape := func(s string) string {
		var b strings.Builder
		for i := range len(s) {
			if strings.IndexByte("abcdefghijklmnopqrstuvwxyzABCDEFGHIJKLMNOPQRSTUVWXYZ0123456789-._~", s[i]) >= 0 {
				b.WriteByte(s[i])
			} else {
				b.WriteString("%" + strings.ToUpper(hex(int(s[i]))))
			}
		}
		return b.String()
	}
	bare := x.Token == "" && x.User == "" && x.From == 0
	token := x.Token != "" && x.User == "" && x.From == 0 && !x.Me
	user := x.User != "" && x.Token == "" && x.From == 0 && !x.Me
	switch {
	case x.Kind == 1 && bare && !x.Me:
		return "POST /sessions", true
	case x.Kind == 2 && bare && x.Me:
		return "GET /me", true
	case x.Kind == 2 && token:
		return "GET /sessions/" + escape(x.Token), true
	case x.Kind == 3 && token:
		return "POST /sessions/" + escape(x.Token) + "/touch", true
	case x.Kind == 4 && token:
		return "DELETE /sessions/" + escape(x.Token), true
	case x.Kind == 5 && user:
		return "DELETE /users/" + escape(x.User) + "/sessions", true
	case x.Kind == 6 && bare && !x.Me:
		return "DELETE /sessions", true
	case x.Kind == 7 && user:
		return "GET /users/" + escape(x.User) + "/sessions", true
	case x.Kind == 8 && x.Token == "" && x.User == "" && !x.Me && x.From >= 0 && x.From <= 999999999:
		return "GET /audit?from=" + decimal(x.From), true
	case x.Kind == 9 && bare && !x.Me:
		return "GET /stats", true
	}
	return " ", false
}

// decimal is a number's digits.
func decimal(n int) string {
	s := string(rune('0' + n%10))
	if n >= 10 {
		return decimal(n/10) + s
	}
	return s
}
