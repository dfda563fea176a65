package server_test

import (
	"fmt"
	"strings"
	"testing"

	"atrium/api"
	"atrium/server"
)

// said is the fields by which one asks, and whose they are: below 0, if nobody's.
type said struct {
	what   string
	fields []api.Field
	tenant int
}

func authorized(values ...string) []api.Field {
	l := []api.Field{{Name: "Host", Value: "x"}}
	for _, v := range values {
		l = append(l, api.Field{Name: "Authorization", Value: v})
	}
	return append(l, api.Field{Name: "X-Authorization", Value: "Bearer x"})
}

func credentials() []said {
	l := some(1, 2, 3)
	b, a := credential(l[0]), credential(l[1])
	other := credential(api.Tenant{Name: "b", Key: "other"})
	return []said{
		{"the first one's", authorized("Bearer " + b), 0},
		{"the second one's", authorized("Bearer " + a), 1},
		{"in other letters", []api.Field{{Name: "aUTHORIZATION", Value: "bEARER " + credential(l[2])}}, 2},
		{"none", authorized(), -1},
		{"no fields", nil, -1},
		{"two", authorized("Bearer "+b, "Bearer "+b), -1},
		{"two tenants'", authorized("Bearer "+b, "Bearer "+a), -1},
		{"a wrong one beside a right one", authorized("Bearer "+b, "Bearer x"), -1},
		{"a right one beside a wrong one", authorized("Basic x", "Bearer "+b), -1},
		{"another key's", authorized("Bearer " + other), -1},
		{"of none of them", authorized("Bearer " + credential(api.Tenant{Name: "acme", Key: "kacme"})), -1},
		{"one's name with another one's key", authorized("Bearer " + credential(api.Tenant{Name: "b", Key: "ka"})), -1},
		{"no word", authorized(b), -1},
		{"another word", authorized("Basic " + b), -1},
		{"two blanks", authorized("Bearer  " + b), -1},
		{"more behind", authorized("Bearer " + b + "0"), -1},
		{"great digits", authorized("Bearer " + strings.ToUpper(b)), -1},
		{"empty", authorized(""), -1},
		{"in the field's name", []api.Field{{Name: "Authorization:", Value: "Bearer " + b}}, -1},
	}
}

// way is a target, and what each method asks of it; a method that is not there is told 405, and wrong a Status ahead of that.
type way struct {
	target string
	wrong  int
	asks   map[string]api.Call
	query  bool // its query may not be: 400 of the methods that there are
	me     bool
}

func ways() []way {
	get := func(c api.Call) map[string]api.Call { return map[string]api.Call{"GET": c} }
	sessions := map[string]api.Call{"POST": {Kind: api.CallCreate}, "DELETE": {Kind: api.CallRevokeAll}}
	session := func(token string) map[string]api.Call {
		return map[string]api.Call{"GET": {Kind: api.CallGet, Token: token}, "DELETE": {Kind: api.CallRevoke, Token: token}}
	}
	touch := map[string]api.Call{"POST": {Kind: api.CallTouch, Token: "T"}}
	users := func(user string) map[string]api.Call {
		return map[string]api.Call{"GET": {Kind: api.CallList, User: user}, "DELETE": {Kind: api.CallRevokeUser, User: user}}
	}
	return []way{
		{target: "/sessions", asks: sessions},
		{target: "/sessions?", asks: sessions, query: true},
		{target: "/sessions?from=1", asks: sessions, query: true},
		{target: "/sessions/T", asks: session("T")},
		{target: "/sessions/a%2Fb%00%ff", asks: session("a/b\x00\xff")},
		{target: "/sessions/T?x=1", asks: session("T"), query: true},
		{target: "/sessions/T/touch", asks: touch},
		{target: "/sessions/T/touch?", asks: touch, query: true},
		{target: "/users/ada/sessions", asks: users("ada")},
		{target: "/users/%C3%A9/sessions", asks: users("é")},
		{target: "/users/ada/sessions?x", asks: users("ada"), query: true},
		{target: "/audit", asks: get(api.Call{Kind: api.CallAudit, From: 1})},
		{target: "/audit?from=0", asks: get(api.Call{Kind: api.CallAudit, From: 0})},
		{target: "/audit?from=999999999", asks: get(api.Call{Kind: api.CallAudit, From: 999999999})},
		{target: "/audit?from=1000000000", asks: get(api.Call{}), query: true},
		{target: "/audit?from=01", asks: get(api.Call{}), query: true},
		{target: "/audit?from=", asks: get(api.Call{}), query: true},
		{target: "/audit?to=1", asks: get(api.Call{}), query: true},
		{target: "/me", asks: get(api.Call{Kind: api.CallGet}), me: true},
		{target: "/me?", asks: get(api.Call{}), query: true},
		{target: "/stats", asks: get(api.Call{Kind: api.CallStats})},
		{target: "/stats?a=b", asks: get(api.Call{}), query: true},
		{target: "/", wrong: 404}, {target: "/nothing", wrong: 404}, {target: "/sessions/", wrong: 404}, {target: "/sessions/T/", wrong: 404}, {target: "/Sessions", wrong: 404},
		{target: "/users/ada", wrong: 404}, {target: "/users//sessions", wrong: 404}, {target: "/sessions/T/other", wrong: 404}, {target: "/audit/1", wrong: 404}, {target: "/me/x", wrong: 404}, {target: "/nothing?x=1", wrong: 404},
		{target: "", wrong: 400}, {target: "sessions", wrong: 400}, {target: "*", wrong: 400}, {target: "/%", wrong: 400}, {target: "/sessions/%4", wrong: 400}, {target: "/nothing/%zz", wrong: 400}, {target: "http://x/me", wrong: 400},
		{target: "/" + strings.Repeat("a", 1023), wrong: 404}, {target: "/" + strings.Repeat("a", 1024), wrong: 400},
	}
}

// cookies are Cookie fields, and the token that they have.
type cookies struct {
	values []string
	token  string
	is     bool
}

func cookieFields() []cookies {
	return []cookies{
		{nil, "", false},
		{[]string{""}, "", false},
		{[]string{"a=b"}, "", false},
		{[]string{"SID=x"}, "", false},
		{[]string{"sid=x"}, "x", true},
		{[]string{"sid="}, "", true},
		{[]string{`sid="x"`}, "x", true},
		{[]string{"a=b; sid=x; c=d"}, "x", true},
		{[]string{"sid=x; sid=y"}, "x", true},
		{[]string{"sid=x", "sid=y"}, "x", true},
		{[]string{"a=b", "sid=y"}, "y", true},
		{[]string{"sid=x;sid=z", "sid=y"}, "y", true}, // the first one is none
		{[]string{"sid=x;a=b"}, "", false},
		{[]string{"sid=\xff"}, "", false},
	}
}

// body is a body, and of which kinds of calls it may be that: of a create and of a touch with what it says.
type body struct {
	text   string
	create *api.Call
	touch  *api.Call
}

func bodies() []body {
	made := func(text, user, data string, ttl int) body {
		return body{text: text, create: &api.Call{User: user, Data: data, TTL: ttl}}
	}
	touched := func(text string, ttl int) body { return body{text: text, touch: &api.Call{TTL: ttl}} }
	l := []body{
		made(`{"user":"ada","ttl":9,"data":"x"}`, "ada", "x", 9),
		made(`{"data":"x","ttl":9,"user":"ada"}`, "ada", "x", 9),
		made(" {\t\"user\" : \"ada\" ,\r\n\"ttl\":9,\"data\":\"x\" }\n", "ada", "x", 9),
		made(`{"user":"","ttl":0,"data":""}`, "", "", 0),
		made(`{"user":"\u00e9\n\u0000","ttl":-5,"data":"\ud83d\ude00"}`, "é\n\x00", "\U0001F600", -5),
		made(`{"user":"é","ttl":9223372036854775807,"data":"`+strings.Repeat("y", 600)+`"}`, "é", strings.Repeat("y", 600), 1<<63-1),
		made(`{"\u0075ser":"ada","t\u0074l":-9223372036854775807,"data":"x"}`, "ada", "x", -1<<63+1),
		touched(`{"ttl":9}`, 9), touched(` { "ttl" : 0 } `, 0), touched(`{"ttl":-1}`, -1), touched(`{"ttl":2147483648}`, 1<<31),
	}
	for _, s := range []string{
		``, ` `, `{}`, `null`, `true`, `9`, `"x"`, `[]`, `["ttl"]`, `[{"ttl":9}]`, `x`, `{`, "\x00", `{"ttl":9}}`, `{"ttl":9} x`, `{"ttl":9,}`, `{ttl:9}`, `{'ttl':9}`,
		`{"ttl":"9"}`, `{"ttl":9.0}`, `{"ttl":1.5}`, `{"ttl":9e0}`, `{"ttl":1E3}`, `{"ttl":09}`, `{"ttl":-0}`, `{"ttl":+9}`, `{"ttl":9223372036854775808}`, `{"ttl":-9223372036854775808}`, `{"ttl":null}`, `{"ttl":true}`, `{"ttl":[9]}`, `{"ttl":{}}`, `{"TTL":9}`, `{"":9}`,
		`{"ttl":9,"ttl":9}`, `{"ttl":9,"data":"x"}`, `{"ttl":9,"x":1}`, `{"data":"x"}`, `{"user":"ada"}`,
		`{"user":"ada","ttl":9}`, `{"user":"ada","data":"x"}`, `{"ttl":9,"user":"ada"}`, `{"user":"ada","ttl":9,"data":"x","more":1}`, `{"user":"ada","ttl":9,"data":"x","":""}`, `{"user":"ada","ttl":9,"other":"x"}`, `{"User":"ada","ttl":9,"data":"x"}`,
		`{"user":"ada","ttl":9,"data":"x","data":"x"}`, `{"user":"ada","user":"ada","ttl":9}`,
		`{"user":1,"ttl":9,"data":"x"}`, `{"user":null,"ttl":9,"data":"x"}`, `{"user":["ada"],"ttl":9,"data":"x"}`, `{"user":true,"ttl":9,"data":"x"}`,
		`{"user":"ada","ttl":9,"data":1}`, `{"user":"ada","ttl":9,"data":null}`, `{"user":"ada","ttl":9,"data":{"a":"b"}}`, `{"user":"ada","ttl":9,"data":[]}`,
		`{"user":"ada","ttl":"9","data":"x"}`, `{"user":"ada","ttl":9.5,"data":"x"}`, `{"user":"ada","ttl":null,"data":"x"}`, `{"user":"ada","ttl":99999999999999999999,"data":"x"}`,
		"{\"user\":\"\xff\",\"ttl\":9,\"data\":\"x\"}", `{"user":"\ud800","ttl":9,"data":"x"}`, "{\"user\":\"a\nb\",\"ttl\":9,\"data\":\"x\"}", "\xef\xbb\xbf{\"ttl\":9}",
		`{"user":"ada","ttl":9,"data":"` + strings.Repeat("x", 1<<16) + `"}`, strings.Repeat("[", 20), `{"ttl":9}` + strings.Repeat(" ", 1<<16),
	} {
		l = append(l, body{text: s})
	}
	return l
}

// meant is what a request of these parts means.
func meant(who said, w way, method string, k cookies, b body) (api.Call, api.Reply, bool) {
	no := func(status int, word string) (api.Call, api.Reply, bool) {
		return api.Call{}, api.Reply{Status: status, Body: `{"error":"` + word + `"}`, Close: status == 400}, false
	}
	c, has := w.asks[method]
	switch {
	case who.tenant < 0:
		return no(401, "credential")
	case w.wrong == 400:
		return no(400, "target")
	case w.wrong == 404:
		return no(404, "route")
	case !has:
		return no(405, "method")
	case w.query:
		return no(400, "target")
	case w.me && !k.is:
		return no(401, "cookie")
	}
	if w.me {
		c.Token = k.token
	}
	c.Tenant = who.tenant
	says := &api.Call{}
	switch c.Kind {
	case api.CallCreate:
		says = b.create
	case api.CallTouch:
		says = b.touch
	default:
		if b.text != "" {
			says = nil
		}
	}
	if says == nil {
		return no(400, "body")
	}
	if c.Kind == api.CallCreate {
		c.User, c.Data = says.User, says.Data
	}
	if c.Kind == api.CallCreate || c.Kind == api.CallTouch {
		c.TTL = says.TTL
	}
	return c, api.Reply{}, true
}

func wantMeaning(t *testing.T, who said, w way, method string, k cookies, b body) {
	t.Helper()
	r := api.Request{Method: method, Target: w.target, Fields: append([]api.Field(nil), who.fields...), Body: b.text}
	for i, v := range k.values {
		r.Fields = append(r.Fields, api.Field{Name: []string{"Cookie", "cOOKIE"}[i%2], Value: v})
	}
	c, no, is := meant(who, w, method, k, b)
	for _, closes := range []bool{false, true} { // a refusal does not hang on it
		r.Close = closes
		gotC, gotNo, gotIs := server.Meaning(some(1, 2, 3), r)
		if gotC != c || gotNo != no || gotIs != is {
			t.Errorf("%s, %s %.60q, %q, %.80q: %+v %+v %v, not %+v %+v %v", who.what, method, w.target, k.values, b.text, gotC, gotNo, gotIs, c, no, is)
		}
	}
}

var methods = []string{"GET", "POST", "DELETE", "PUT", "HEAD", "get", ""}

func TestMeaning(t *testing.T) { // P27.1: each route with each method, and in which order what is wrong is told
	none := cookieFields()[0]
	for _, who := range credentials() {
		for _, w := range ways() {
			for _, method := range methods {
				for i, b := range bodies() {
					if i%5 == 0 || i >= 7 && i <= 11 || w.asks[method].Kind != 0 && who.tenant >= 0 {
						wantMeaning(t, who, w, method, none, b)
					}
				}
			}
		}
	}
}

func TestMeaningOfMe(t *testing.T) { // P27.1: whose the cookie says, and nobody else asks for it
	empty, full := body{}, body{text: "x"}
	for _, who := range credentials() {
		for _, w := range ways() {
			if w.me || w.target == "/stats" || w.target == "/sessions/T" {
				for _, method := range methods {
					for _, k := range cookieFields() {
						wantMeaning(t, who, w, method, k, empty)
						wantMeaning(t, who, w, method, k, full)
					}
				}
			}
		}
	}
}

func TestMeaningOfWrongTenants(t *testing.T) { // P27.1: 401
	l := some(1, 2)
	no := api.Reply{Status: 401, Body: `{"error":"credential"}`}
	for what, wrong := range map[string][]api.Tenant{"nil": nil, "none": {}, "twice": append(l[:2:2], l[0]), "a name": {l[0], {Name: "A", Key: "k"}}, "a quota": {l[0], {Name: "c", Key: "k", Quota: -1}}} {
		for _, target := range []string{"/stats", "/nothing", "/%"} {
			c, r, is := server.Meaning(wrong, api.Request{Method: "GET", Target: target, Fields: authorized("Bearer " + credential(l[0]))})
			want(t, what, c, api.Call{})
			want(t, what, r, no)
			want(t, what, is, false)
		}
	}
	c, r, is := server.Meaning(l, api.Request{})
	want(t, "a zero request", fmt.Sprint(c, r, is), fmt.Sprint(api.Call{}, no, false))
}

func TestMeaningIsRead(t *testing.T) { // P27.1, P27.2: the same of a request that came as bytes
	c := config(1, 2, 3)
	for _, who := range credentials()[:8] {
		for _, w := range ways() {
			for _, method := range []string{"GET", "POST", "DELETE", "PUT"} {
				for _, b := range []body{{}, bodies()[0], bodies()[7]} {
					if w.target == "" || w.target[0] != '/' || len(w.target) > 1024 {
						continue // no request's
					}
					s := method + " " + w.target + " HTTP/1.1\r\n"
					if who.fields == nil || who.fields[0].Name != "Host" {
						s += "Host: x\r\n"
					}
					for _, f := range who.fields {
						s += f.Name + ": " + f.Value + "\r\n"
					}
					s += fmt.Sprintf("Content-Length: %d\r\n\r\n%s", len(b.text), b.text)
					call, no, is := meant(who, w, method, cookies{}, b)
					x := server.Play(c, []api.Term{term(zeros(1), at(0, 0, s))}).Terms[0].Asked
					if len(x) != 1 || x[0].IsCall != is || x[0].Status != no.Status {
						t.Fatalf("%q: %+v", s, x)
					}
					if call.Kind == api.CallCreate {
						call.Draw = drawOf(0, 0, 0)
					}
					want(t, s, x[0].Call, call)
				}
			}
		}
	}
}
