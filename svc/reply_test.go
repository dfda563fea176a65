package svc_test

import (
	"encoding/json"
	"fmt"
	"math"
	"strings"
	"testing"

	"atrium/api"
	"atrium/reply"
	"atrium/svc"
)

// wantReply is what Reply should tell.
func wantReply(t *testing.T, kind int, a api.Answer, should api.Reply) {
	t.Helper()
	got := svc.Reply(api.Call{Kind: kind}, a)
	want(t, fmt.Sprintf("Reply of %d and %.200s", kind, fmt.Sprintf("%+v", a)), got, should)
	want(t, "it may be", reply.Check(got), api.OK)
}

// everything is an answer with all fields.
func everything(status int) api.Answer {
	return api.Answer{
		Status: status, Word: "word", Token: "TOKEN", User: "ada", Data: "x", Expires: 15, Revoked: 3,
		Tokens: []string{"A", "B"}, Entries: []api.Entry{{Number: 7, Kind: 2, Tick: 9, Subject: "s"}, {Number: 8, Kind: 6, Tick: 10}}, Head: "00ff",
		Live: 4, Users: 5, Total: 6, Next: 8,
	}
}

func TestReply200(t *testing.T) { // P25.4: of each Kind its own fields, and no others
	for kind, body := range map[int]string{
		api.CallGet:        `{"data":"x","expires":15,"user":"ada"}`,
		api.CallTouch:      `{"expires":15}`,
		api.CallRevokeUser: `{"revoked":3}`,
		api.CallRevokeAll:  `{"revoked":3}`,
		api.CallList:       `{"tokens":["A","B"]}`,
		api.CallAudit:      `{"entries":[{"kind":2,"number":7,"subject":"s","tick":9},{"kind":6,"number":8,"subject":"","tick":10}],"head":"00ff"}`,
		api.CallStats:      `{"entries":6,"live":4,"next":8,"users":5}`,
	} {
		wantReply(t, kind, everything(200), api.Reply{Status: 200, Body: body})
	}
	for kind, body := range map[int]string{
		api.CallGet:        `{"data":"","expires":0,"user":""}`,
		api.CallTouch:      `{"expires":0}`,
		api.CallRevokeUser: `{"revoked":0}`,
		api.CallRevokeAll:  `{"revoked":0}`,
		api.CallList:       `{"tokens":[]}`,
		api.CallAudit:      `{"entries":[],"head":""}`,
		api.CallStats:      `{"entries":0,"live":0,"next":0,"users":0}`,
	} {
		wantReply(t, kind, api.Answer{Status: 200}, api.Reply{Status: 200, Body: body})
	}
	for _, kind := range []int{api.CallCreate, api.CallRevoke, 0, -1, 10} { // the document names no field
		wantReply(t, kind, everything(200), api.Reply{Status: 200, Body: `{}`})
	}
}

func TestReplyOthers(t *testing.T) { // P25.4: 201, 204, 400 and more
	for kind := range 11 {
		wantReply(t, kind, everything(201), api.Reply{Status: 201, Body: `{"expires":15,"token":"TOKEN"}`, Cookie: "sid=TOKEN; Path=/; HttpOnly"})
		wantReply(t, kind, everything(204), api.Reply{Status: 204})
		for _, x := range []api.Answer{bad, missing, over, failed, full} {
			body := `{"error":"` + x.Word + `"}`
			wantReply(t, kind, x, api.Reply{Status: x.Status, Body: body, Close: x.Status == 400})
			wantReply(t, kind, everything(x.Status), api.Reply{Status: x.Status, Body: `{"error":"word"}`, Close: x.Status == 400})
			want(t, "layer 18's", svc.Reply(api.Call{Kind: kind}, x), reply.Error(x.Status, x.Word))
		}
	}
}

func TestReplyAnyStatus(t *testing.T) { // R1: of any other one it ends, too
	for _, status := range []int{math.MinInt, -1, 0, 199, 202, 203, 205, 399, 400, 1000, math.MaxInt} {
		for kind := range 11 {
			got := svc.Reply(api.Call{Kind: kind}, everything(status))
			want(t, "Status", got.Status, status)
			want(t, "Cookie", got.Cookie, "")
			if status >= 400 {
				want(t, "layer 18's", got, reply.Error(status, "word"))
			} else {
				want(t, "no field is named", got.Body, `{}`)
			}
		}
	}
}

func TestReplyNumbers(t *testing.T) { // P25.4: at 2^63 - 1, and above
	for n, should := range map[uint64]string{
		0: "0", 1<<63 - 2: "9223372036854775806", 1<<63 - 1: "9223372036854775807", 1 << 63: "9223372036854775807", math.MaxUint64: "9223372036854775807",
	} {
		a := api.Answer{Status: 200, Expires: n, Entries: []api.Entry{{Number: math.MaxInt, Kind: math.MaxInt, Tick: n}}}
		wantReply(t, api.CallGet, a, api.Reply{Status: 200, Body: `{"data":"","expires":` + should + `,"user":""}`})
		wantReply(t, api.CallTouch, a, api.Reply{Status: 200, Body: `{"expires":` + should + `}`})
		wantReply(t, api.CallAudit, a, api.Reply{Status: 200, Body: `{"entries":[{"kind":9223372036854775807,"number":9223372036854775807,"subject":"","tick":` + should + `}],"head":""}`})
		a.Status = 201
		wantReply(t, api.CallCreate, a, api.Reply{Status: 201, Body: `{"expires":` + should + `,"token":""}`, Cookie: "sid=; Path=/; HttpOnly"})
	}
	for _, n := range []int{0, 1, math.MaxInt} {
		wantReply(t, api.CallStats, api.Answer{Status: 200, Live: n, Users: n, Total: n, Next: n}, api.Reply{Status: 200, Body: fmt.Sprintf(`{"entries":%d,"live":%d,"next":%d,"users":%d}`, n, n, n, n)})
		wantReply(t, api.CallRevokeAll, api.Answer{Status: 200, Revoked: n}, api.Reply{Status: 200, Body: fmt.Sprintf(`{"revoked":%d}`, n)})
	}
}

func TestReplyTexts(t *testing.T) { // P25.4: what JSON escapes
	for s, should := range map[string]string{
		"\"\\/": `"\"\\/"`, "\b\f\n\r\t": `"\b\f\n\r\t"`, "\x00\x1F": `"\u0000\u001f"`, "é\u2028\U0001F600<>&": "\"é\u2028\U0001F600<>&\"", "\x7F": "\"\x7F\"",
	} {
		wantReply(t, api.CallGet, api.Answer{Status: 200, User: s, Data: s}, api.Reply{Status: 200, Body: `{"data":` + should + `,"expires":0,"user":` + should + `}`})
		wantReply(t, api.CallList, api.Answer{Status: 200, Tokens: []string{s}}, api.Reply{Status: 200, Body: `{"tokens":[` + should + `]}`})
		wantReply(t, api.CallAudit, api.Answer{Status: 200, Entries: []api.Entry{{Subject: s}}, Head: s}, api.Reply{Status: 200, Body: `{"entries":[{"kind":0,"number":0,"subject":` + should + `,"tick":0}],"head":` + should + `}`})
	}
	for _, x := range []struct { // what layer 16 prints nothing of
		kind int
		a    api.Answer
	}{
		{api.CallGet, api.Answer{Status: 200, Data: "\xFF"}}, {api.CallGet, api.Answer{Status: 200, Data: strings.Repeat("x", 1<<16)}}, {api.CallRevokeAll, api.Answer{Status: 200, Revoked: math.MinInt}},
	} {
		wantReply(t, x.kind, x.a, api.Reply{Status: 200})
	}
}

func TestReplyMany(t *testing.T) { // P25.4: as many as an answer may have
	var a api.Answer
	a.Status = 200
	for i := range 256 {
		a.Tokens = append(a.Tokens, token(uint64(i), 7))
	}
	for i := range 16 {
		a.Entries = append(a.Entries, api.Entry{Number: i + 1, Kind: 9, Tick: math.MaxUint64, Subject: strings.Repeat("\x01", 128)})
	}
	a.Head = strings.Repeat("f", 64)
	for _, kind := range []int{api.CallList, api.CallAudit} {
		r := svc.Reply(api.Call{Kind: kind}, a)
		want(t, "it may be", reply.Check(r), api.OK)
		var told struct {
			Tokens  []string
			Entries []struct {
				Kind, Number int
				Subject      string
				Tick         uint64
			}
			Head string
		}
		want(t, "it is JSON", json.Unmarshal([]byte(r.Body), &told), nil)
		if kind == api.CallList {
			want(t, "Tokens", told.Tokens, a.Tokens)
			continue
		}
		want(t, "Head", told.Head, a.Head)
		want(t, "Entries", len(told.Entries), 16)
		for i, e := range told.Entries {
			want(t, "an entry", api.Entry{Number: e.Number, Kind: e.Kind, Tick: e.Tick, Subject: e.Subject}, api.Entry{Number: i + 1, Kind: 9, Tick: math.MaxInt64, Subject: a.Entries[i].Subject})
		}
	}
}

func TestReplyOfCalls(t *testing.T) { // P25.4: of what calls are told
	b := newBench(t, 1)
	for _, x := range []struct {
		c      api.Call
		should api.Reply
	}{
		{create("ada", 5, 7), api.Reply{Status: 201, Body: `{"expires":15,"token":"AAAAAAAAAAEAAAAAAAAABw"}`, Cookie: "sid=AAAAAAAAAAEAAAAAAAAABw; Path=/; HttpOnly"}},
		{create("ada", 5, 7), api.Reply{Status: 429, Body: `{"error":"quota"}`}},
		{create("", 5, 7), api.Reply{Status: 400, Body: `{"error":"bad"}`, Close: true}},
		{api.Call{Kind: api.CallGet, Token: token(1, 7)}, api.Reply{Status: 200, Body: `{"data":"x","expires":15,"user":"ada"}`}},
		{api.Call{Kind: api.CallGet, Token: token(2, 7)}, api.Reply{Status: 404, Body: `{"error":"missing"}`}},
		{api.Call{Kind: api.CallTouch, Token: token(1, 7), TTL: 6}, api.Reply{Status: 200, Body: `{"expires":16}`}},
		{api.Call{Kind: api.CallList, User: "ada"}, api.Reply{Status: 200, Body: `{"tokens":["AAAAAAAAAAEAAAAAAAAABw"]}`}},
		{api.Call{Kind: api.CallList, User: "eve"}, api.Reply{Status: 200, Body: `{"tokens":[]}`}},
		{api.Call{Kind: api.CallStats}, api.Reply{Status: 200, Body: `{"entries":2,"live":1,"next":2,"users":1}`}},
		{api.Call{Kind: api.CallRevoke, Token: token(1, 7)}, api.Reply{Status: 204}},
		{api.Call{Kind: api.CallRevokeUser, User: "ada"}, api.Reply{Status: 200, Body: `{"revoked":0}`}},
	} {
		wantReply(t, x.c.Kind, b.do(x.c, 10), x.should)
	}
	b.do(create("ada", 5, 8), 10)
	wantReply(t, api.CallRevokeAll, b.do(api.Call{Kind: api.CallRevokeAll}, 10), api.Reply{Status: 200, Body: `{"revoked":1}`})
	wantReply(t, api.CallAudit, b.do(api.Call{Kind: api.CallAudit, From: 5}, 10), api.Reply{Status: 200, Body: `{"entries":[{"kind":6,"number":5,"subject":"","tick":10}],"head":"` + hexHead(b.w.Entries(0)) + `"}`})
	wantReply(t, api.CallAudit, b.do(api.Call{Kind: api.CallAudit, From: 6}, 10), api.Reply{Status: 200, Body: `{"entries":[],"head":"` + hexHead(b.w.Entries(0)) + `"}`})
}
