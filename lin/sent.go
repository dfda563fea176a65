package lin

import (
	"strings"

	"atrium/api"
	"atrium/http"
	"atrium/model"
	"atrium/reply"
	"atrium/server"
	"atrium/svc"
)

// line is a connection, as it should be: requests are taken from what came, and answered as the record says that they were.
type line struct {
	tenants []api.Tenant
	timing  api.Timing
	conn    int
	nth     int // how many requests were taken
	came    stream
	output  strings.Builder
	closed  bool // the last reply ended it
}

// wasSent tells whether a term's requests are those that came, and what was sent is their replies.
func wasSent(tenants []api.Tenant, plan api.Term, s api.Served) bool {
	lines := make([]line, api.MaxConns)
	for i := range lines {
		lines[i] = line{tenants: tenants, timing: plan.Timing, conn: i, came: came(plan.Arrivals, i, s.Steps)}
	}
	for _, a := range s.Asked {
		if a.Conn < 0 || a.Conn >= len(lines) || !lines[a.Conn].take(a) {
			return false
		}
	}
	for i := range lines {
		if lines[i].told() != lineOf(s, i) {
			return false
		}
	}
	return true
}

// lineOf is what a record says of a connection; nothing, where it has no line of it, as there was no engine.
func lineOf(s api.Served, conn int) api.Line {
	if conn >= len(s.Lines) {
		return api.Line{}
	}
	return s.Lines[conn]
}

func (x *line) told() api.Line {
	return api.Line{Output: x.output.String(), Closed: x.closed}
}

// take tells whether a request is the next one that came, and goes on behind it.
func (x *line) take(a api.Asked) bool {
	r, size, e := http.Parse(x.came.bytes)
	if e == api.ErrNone {
		return false
	}
	call, refusal, is := x.meaning(r, e)
	if a.First != x.came.first() || a.IsCall != is || a.Call != call {
		return false
	}
	if !is && (a.Status != refusal.Status || !model.Same(a.Answer, api.Answer{})) {
		return false
	}
	x.nth++
	x.came.drop(size)
	answer := refusal
	if is {
		answer = svc.Reply(call, a.Answer)
	}
	answer.Close = answer.Close || r.Close
	x.answer(answer, wasAnswered(a))
	return true
}

// meaning is what the next request asks, or the reply that refuses it.
func (x *line) meaning(r api.Request, e api.Errno) (api.Call, api.Reply, bool) {
	if e != api.OK {
		return api.Call{}, noRequest(e), false
	}
	call, refusal, is := server.Meaning(x.tenants, r)
	if is && call.Kind == api.CallCreate {
		call.Draw = server.Draw(x.timing, x.conn, x.nth)
	}
	return call, refusal, is
}

// noRequest is the reply to bytes that are none.
func noRequest(e api.Errno) api.Reply {
	switch e {
	case api.ErrBig:
		return reply.Error(413, "large")
	case api.ErrWide:
		return reply.Error(431, "wide")
	}
	return reply.Error(400, "request")
}

// answer goes on behind a request's reply, if that was sent: behind one that closes nothing is asked, be it sent or not.
func (x *line) answer(r api.Reply, isSent bool) {
	if isSent {
		bytes, _ := reply.Write(r) // a reply that may not be has none
		x.output.WriteString(bytes)
		x.closed = r.Close
	}
	if r.Close {
		x.came = stream{}
	}
}
