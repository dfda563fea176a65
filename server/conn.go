package server

import (
	"strings"

	"atrium/api"
	"atrium/http"
	"atrium/reply"
	"atrium/sched"
	"atrium/svc"
)

// The states of a connection.
const (
	idle       = iota // no request is in work
	taken             // one is, and is not prepared
	prepared          // it waits for its commit
	determined        // its answer waits to be sent
)

// conn is a connection, a task.
type conn struct {
	term   *term
	number int
	inbox  inbox
	output strings.Builder
	closed bool
	state  int
	nth    int        // how many requests came ahead of the one that asked tells of
	asked  *api.Asked // the last request
	closes bool       // it says that the connection ends behind its reply
	op     *svc.Op    // its call, once that is prepared
	tick   uint64     // when it was prepared
}

// states is what a step does, by the state ahead of it.
func states() [determined + 1]func(c *conn, now uint64) {
	return [...]func(c *conn, now uint64){
		idle:       (*conn).take,
		taken:      (*conn).prepare,
		prepared:   (*conn).commit,
		determined: (*conn).send,
	}
}

// Step does a step.
func (c *conn) Step(e *sched.Env) api.Move {
	states()[c.state](c, c.term.at(e))
	return api.Move{}
}

// arrive takes bytes that come; behind its end a connection passes them over.
func (c *conn) arrive(step int, bytes string) {
	if !c.closed {
		c.inbox.add(step, bytes)
	}
}

// take begins with the next request, if it is there.
func (c *conn) take(uint64) {
	r, size, e := http.Parse(c.inbox.bytes)
	if e == api.ErrNone {
		return
	}
	c.begin(r.Close)
	if e != api.OK {
		c.refuse(noRequest(e))
		return
	}
	c.inbox.drop(size)
	call, no, is := Meaning(c.term.tenants(), r)
	if !is {
		c.refuse(no)
		return
	}
	if call.Kind == api.CallCreate {
		call.Draw = Draw(c.term.plan.Timing, c.number, c.asked.Nth)
	}
	c.asked.IsCall, c.asked.Call = true, call
	c.state = taken
}

// begin begins the record of a request whose first byte is the inbox's.
func (c *conn) begin(closes bool) {
	c.closes = closes
	c.asked = &api.Asked{Conn: c.number, Nth: c.nth, First: c.inbox.first(), Point: -1, Done: -1}
	c.nth++
	c.term.asked = append(c.term.asked, c.asked)
}

// refuse answers a request that asks for no call.
func (c *conn) refuse(r api.Reply) {
	c.asked.Status, c.asked.Point, c.asked.Fate = r.Status, c.term.step, api.FateDone
	c.say(r)
}

// prepare works the call out.
func (c *conn) prepare(now uint64) {
	c.tick = now
	op, e := svc.Prepare(c.term.db, c.term.tenants(), c.asked.Call, now)
	c.op = op
	switch {
	case e != api.OK:
		c.determine(api.Answer{Status: 500, Word: "failed"}, api.FateNone)
	case op.Ready():
		c.determine(op.Answer(), api.FateDone)
	default:
		c.state = prepared
	}
}

// commit does what was worked out, or lets it be worked out anew.
func (c *conn) commit(uint64) {
	e := c.op.Commit()
	switch e {
	case api.OK:
		c.determine(c.op.Answer(), api.FateDone)
	case api.ErrConflict:
		c.state = taken
	case api.ErrIO:
		c.determine(c.op.Answer(), api.FateUnsure)
	default:
		c.determine(c.op.Answer(), api.FateNone)
	}
}

// determine takes down what the call is told.
func (c *conn) determine(a api.Answer, fate int) {
	x := c.asked
	x.Answer, x.Status, x.Fate = a, a.Status, fate
	x.Point, x.Tick = c.term.step, c.tick
	c.state = determined
}

// powerGone is told the connection whose step the power's end ended: what it committed there may not last, though it was told so.
func (c *conn) powerGone() {
	if c.state == determined && c.asked.Fate == api.FateDone && !c.op.Ready() {
		c.asked.Fate = api.FateUnsure
	}
}

// send sends what the call is told.
func (c *conn) send(uint64) {
	c.say(svc.Reply(c.asked.Call, c.asked.Answer))
}

// say sends a reply, the last one perhaps.
func (c *conn) say(r api.Reply) {
	r.Close = r.Close || c.closes
	bytes, _ := reply.Write(r) // whatever is told here may be one
	c.output.WriteString(bytes)
	c.asked.Done = c.term.step
	c.state = idle
	if r.Close {
		c.closed, c.inbox = true, inbox{}
	}
}
