package route_test

import (
	"slices"
	"strings"
	"testing"

	"atrium/api"
	"atrium/route"
)

func TestExample(t *testing.T) {
	wantFound(t, "GET", "/sessions/a%2Fb", api.Route{Kind: api.CallGet, Token: "a/b"})
	wantStatus(t, "PUT", "/sessions", 405)
	wantStatus(t, "GET", "/audit?from=01", 400)
	wantStatus(t, "GET", "/nothing", 404)
	wantList(t, "Methods", route.Methods("/sessions"), []string{"DELETE", "POST"})
}

// known is a path with what each method asks for there.
type known struct {
	path string
	asks map[string]api.Route
}

func knowns() []known {
	return []known{
		{"/sessions", map[string]api.Route{"POST": {Kind: api.CallCreate}, "DELETE": {Kind: api.CallRevokeAll}}},
		{"/sessions/tok", map[string]api.Route{"GET": {Kind: api.CallGet, Token: "tok"}, "DELETE": {Kind: api.CallRevoke, Token: "tok"}}},
		{"/sessions/tok/touch", map[string]api.Route{"POST": {Kind: api.CallTouch, Token: "tok"}}},
		{"/users/ada/sessions", map[string]api.Route{"GET": {Kind: api.CallList, User: "ada"}, "DELETE": {Kind: api.CallRevokeUser, User: "ada"}}},
		{"/audit", map[string]api.Route{"GET": {Kind: api.CallAudit, From: 1}}},
		{"/me", map[string]api.Route{"GET": {Kind: api.CallGet, Me: true}}},
		{"/stats", map[string]api.Route{"GET": {Kind: api.CallStats}}},
	}
}

func TestFindEach(t *testing.T) { // P20.2: each path with each method, and with queries
	count := 0
	for _, k := range knowns() {
		var having []string
		for _, method := range methods() {
			x, is := k.asks[method]
			if is {
				wantFound(t, method, k.path, x)
				having = append(having, method)
				count++
			} else {
				wantStatus(t, method, k.path, 405)
			}
			for _, query := range []string{"", "x", "x=1", "&", "%", "%zz", "?", "from", "FROM=1", "from=1&from=2", "/"} {
				if is { // the method is looked at first
					wantStatus(t, method, k.path+"?"+query, 400)
				} else {
					wantStatus(t, method, k.path+"?"+query, 405)
				}
			}
			if is && k.path != "/audit" {
				wantStatus(t, method, k.path+"?from=1", 400)
			}
		}
		for _, query := range []string{"", "?", "?x", "?from=1", "?%zz", "?from=x", "??"} { // whatever the query
			wantList(t, k.path+query, route.Methods(k.path+query), having)
		}
		want(t, "rising", slices.IsSorted(route.Methods(k.path)), true)
	}
	want(t, "how many routes", count, 10)
}

func TestKinds(t *testing.T) { // P20.2: by the numbers of the chapter's table
	for _, x := range []struct {
		method, target string
		kind           int
	}{
		{"POST", "/sessions", 1}, {"GET", "/sessions/T", 2}, {"POST", "/sessions/T/touch", 3}, {"DELETE", "/sessions/T", 4}, {"DELETE", "/users/U/sessions", 5},
		{"DELETE", "/sessions", 6}, {"GET", "/users/U/sessions", 7}, {"GET", "/audit", 8}, {"GET", "/audit?from=7", 8}, {"GET", "/me", 2}, {"GET", "/stats", 9},
	} {
		found, status := route.Find(x.method, x.target)
		want(t, x.target, status, 200)
		want(t, x.target, found.Kind, x.kind)
	}
}

func TestPieces(t *testing.T) { // P20.2: T and U are whatever is not empty, unescaped
	for _, x := range []struct{ raw, piece string }{
		{"a", "a"}, {"sessions", "sessions"}, {"touch", "touch"}, {"users", "users"}, {"me", "me"}, {"T", "T"}, {"*", "*"}, {"+", "+"}, {"a+b", "a+b"}, {".", "."}, {"..", ".."},
		{"%2F", "/"}, {"a%2Fb", "a/b"}, {"a%2fb", "a/b"}, {"%3F", "?"}, {"%20", " "}, {" ", " "}, {"%00", "\x00"}, {"%FF", "\xFF"}, {"\xFF", "\xFF"}, {"\x00", "\x00"}, {"\n", "\n"}, {"%0A", "\n"}, {"%C3%A9", "é"}, {"é", "é"}, {"%25", "%"}, {"%252F", "%2F"}, {"%41%42", "AB"}, {"a=b&c", "a=b&c"}, {"#", "#"},
		{strings.Repeat("x", 1000), strings.Repeat("x", 1000)},
	} {
		wantFound(t, "GET", "/sessions/"+x.raw, api.Route{Kind: api.CallGet, Token: x.piece})
		wantFound(t, "DELETE", "/sessions/"+x.raw, api.Route{Kind: api.CallRevoke, Token: x.piece})
		wantFound(t, "POST", "/sessions/"+x.raw+"/touch", api.Route{Kind: api.CallTouch, Token: x.piece})
		wantFound(t, "GET", "/users/"+x.raw+"/sessions", api.Route{Kind: api.CallList, User: x.piece})
		wantFound(t, "DELETE", "/users/"+x.raw+"/sessions", api.Route{Kind: api.CallRevokeUser, User: x.piece})
	}
}

func TestNoRoute(t *testing.T) { // P20.2
	for _, path := range []string{
		"/", "//", "/nothing", "/Sessions", "/SESSIONS", "/session", "/sessionss", "/sessions/", "//sessions", "/sessions//", "/sessions/a/", "/sessions//touch", "/sessions/a/Touch", "/sessions/a/touch/", "/sessions/a/touch/b", "/sessions/a/b", "/sessions/a//touch", "/sessions//a", "/sessions/a/touc", "/sessions/a/sessions",
		"/users", "/users/", "/users/a", "/users/a/", "/users//sessions", "/users/a/Sessions", "/users/a/sessions/", "/users/a/sessions/b", "/users/a/touch", "/Users/a/sessions", "/user/a/sessions", "/users/a/b/sessions", "/a/sessions", "/a/b/sessions",
		"/audit/", "/Audit", "/audit/1", "//audit", "/me/", "/Me", "/me/a", "/stats/", "/Stats", "/stats/a", "/touch", "/from", "/ me", "/me ", "/me#", "/me;", "/me&from=1", "/audit&from=1", "/./me", "/a/../me", "/T", "/sessions/T/U", "/*", "/sessions\x00",
	} {
		for _, query := range []string{"", "?", "?from=1", "?x", "?%zz"} {
			for _, method := range methods() {
				wantStatus(t, method, path+query, 404)
			}
			wantList(t, path+query, route.Methods(path+query), nil)
		}
	}
}

func TestEscapedWords(t *testing.T) { // P20.2: words stand as they are; each letter of each escaped in turn
	for _, path := range []string{"/sessions", "/users/%61/sessions", "/sessions/%61/touch", "/audit", "/me", "/stats", "/sessions/%61"} {
		if len(route.Methods(path)) == 0 {
			t.Errorf("%s is none", path)
		}
		for i := range len(path) {
			if path[i] < 'a' || path[i] > 'z' {
				continue
			}
			for _, digits := range []string{hex(int(path[i])), strings.ToUpper(hex(int(path[i])))} {
				escaped := path[:i] + "%" + digits + path[i+1:]
				wantList(t, escaped, route.Methods(escaped), nil)
				for _, method := range methods() {
					wantStatus(t, method, escaped, 404)
				}
			}
		}
	}
	wantStatus(t, "GET", "/%6De", 404)
	wantStatus(t, "GET", "/%6de?x", 404)
	wantStatus(t, "POST", "/%2Fsessions", 404)
	wantStatus(t, "GET", "/sessions%2Fa", 404) // no slash that parts
	wantStatus(t, "GET", "/users%2Fa%2Fsessions", 404)
	wantStatus(t, "GET", "/audit%3Ffrom=1", 404) // no question mark
}

func TestAudit(t *testing.T) { // P20.2
	wantFound(t, "GET", "/audit", api.Route{Kind: api.CallAudit, From: 1})
	for _, x := range []struct {
		n      string
		number int
	}{
		{"0", 0}, {"1", 1}, {"2", 2}, {"9", 9}, {"10", 10}, {"17", 17}, {"123456789", 123456789}, {"999999998", 999999998}, {"999999999", 999999999},
		{"%30", 0}, {"%31", 1}, {"1%30", 10}, {"%39%39", 99}, // unescaped, as a query's values are
	} {
		wantFound(t, "GET", "/audit?from="+x.n, api.Route{Kind: api.CallAudit, From: x.number})
	}
	for _, name := range []string{"%66rom", "fr%6Fm", "fr%6fm", "%66%72%6F%6D"} { // and names
		wantFound(t, "GET", "/audit?"+name+"=3", api.Route{Kind: api.CallAudit, From: 3})
	}
	for _, query := range []string{
		"", "from", "from=", "=", "=1", "1", "&", "from=1&", "&from=1", "from=1&from=1", "from=1&from=2", "from=1&x=2", "x=2&from=1", "from=1&x", "from=1&&",
		"From=1", "FROM=1", "from =1", " from=1", "fro=1", "fromm=1", "to=1", "x=1", "from%3D1", "from%3D=1", "from%00=1", "?from=1", "from=1?", "from=1#",
		"from=01", "from=00", "from=000000001", "from=1000000000", "from=9999999999", "from=999999999999999999", "from=1000000000000000000", "from=18446744073709551617", "from=" + strings.Repeat("9", 500), "from=" + strings.Repeat("0", 500),
		"from=-1", "from=+1", "from=-0", "from= 1", "from=1 ", "from=%201", "from=1%20", "from=x", "from=1x", "from=x1", "from=1.0", "from=1e2", "from=0x1", "from=1_0", "from==1", "from=1=", "from=１", "from=\"1\"", "from=1,2", "from=%30%31", "from=%2D1", "from=%2531",
		"from=%", "from=%3", "from=%zz", "fr%m=1", "%=1", "from=1&%=", "fr%6om=1",
	} {
		wantStatus(t, "GET", "/audit?"+query, 400)
		for _, method := range []string{"POST", "DELETE", "PUT", ""} {
			wantStatus(t, method, "/audit?"+query, 405)
		}
		wantStatus(t, "GET", "/audit/?"+query, 404)
		wantStatus(t, "GET", "/%zz?"+query, 400)
		wantList(t, query, route.Methods("/audit?"+query), []string{"GET"})
	}
}

func TestWhichStatus(t *testing.T) { // P20.2: what is named first
	long := strings.Repeat("x", 1100)
	wantStatus(t, "PUT", "/nothing/%zz", 400)        // no target, no route
	wantStatus(t, "PUT", "nothing", 400)             // likewise
	wantStatus(t, "PUT", "/nothing/"+long, 400)      // likewise
	wantStatus(t, "PUT", "/sessions/%zz?x=1", 400)   // no target, another method, a query
	wantStatus(t, "PUT", "/nothing", 404)            // no route, another method
	wantStatus(t, "PUT", "/nothing?%zz", 404)        // and a wrong query
	wantStatus(t, "PUT", "/sessions?x=1", 405)       // another method, a query
	wantStatus(t, "PUT", "/audit?from=01", 405)      // another method, a wrong number
	wantStatus(t, "POST", "/sessions?x=1", 400)      // a query
	wantStatus(t, "GET", "/sessions", 405)           // one of another path
	wantStatus(t, "GET", "/sessions/a/touch", 405)   // likewise
	wantStatus(t, "POST", "/users/a/sessions", 405)  // likewise
	wantStatus(t, "POST", "/users/a/sessions?", 405) // likewise
	full := "/sessions/" + strings.Repeat("t", 1014)
	wantFound(t, "GET", full, api.Route{Kind: api.CallGet, Token: strings.Repeat("t", 1014)})
	wantStatus(t, "PUT", full, 405)
	wantStatus(t, "GET", full+"t", 400)
	wantStatus(t, "PUT", full+"t", 400)
	wantList(t, "1024 bytes", route.Methods(full), []string{"DELETE", "GET"})
	wantList(t, "1025 bytes", route.Methods(full+"t"), nil)
}

func TestMethods(t *testing.T) { // P20.2
	for _, x := range []struct {
		target string
		l      []string
	}{
		{"/sessions", []string{"DELETE", "POST"}}, {"/sessions/a", []string{"DELETE", "GET"}}, {"/sessions/a/touch", []string{"POST"}}, {"/users/a/sessions", []string{"DELETE", "GET"}},
		{"/audit", []string{"GET"}}, {"/audit?from=1", []string{"GET"}}, {"/audit?from=01", []string{"GET"}}, {"/audit?", []string{"GET"}}, {"/me", []string{"GET"}}, {"/me?x", []string{"GET"}}, {"/stats", []string{"GET"}}, {"/stats?%", []string{"GET"}},
		{"", nil}, {"/", nil}, {"sessions", nil}, {"/sessions/", nil}, {"/sessions/%", nil}, {"/users//sessions", nil}, {"/%zz", nil}, {"/nothing", nil}, {"/sessions?" + strings.Repeat("q", 1014), []string{"DELETE", "POST"}}, {"/sessions?" + strings.Repeat("q", 1015), nil},
	} {
		wantList(t, x.target, route.Methods(x.target), x.l)
	}
}
