package server

import (
	"atrium/api"
	"atrium/lsm"
	"atrium/sched"
	"atrium/sweep"
)

// term is a term as it is played: what its tasks share.
type term struct {
	machine *machine
	plan    api.Term
	db      *lsm.DB
	loop    *sched.Loop
	tasks   []sched.Task
	asked   []*api.Asked
	step    int // the one that is done now
}

func newTerm(m *machine, plan api.Term, d *lsm.DB) *term {
	loop, _ := sched.New(plan.Timing)
	t := &term{machine: m, plan: plan, db: d, loop: loop}
	for i := range api.MaxConns {
		t.tasks = append(t.tasks, &conn{term: t, number: i})
	}
	t.tasks = append(t.tasks, &chore{t, (*term).layDown}, &chore{t, (*term).merge}, &chore{t, (*term).sweep})
	for _, x := range t.tasks {
		loop.Add(x)
	}
	return t
}

func (t *term) tenants() []api.Tenant {
	return t.machine.config.Tenants
}

// clock is where it stands: it goes on from the term ahead.
func (t *term) clock() uint64 {
	return t.machine.clock + t.loop.Now()
}

// at is the clock as a task sees it.
func (t *term) at(e *sched.Env) uint64 {
	return t.machine.clock + e.Now()
}

// run does the steps, as long as there is power.
func (t *term) run() {
	for on := true; on && t.step < t.plan.Steps; t.step++ {
		t.arrive()
		n, _ := t.loop.Next()
		on = !t.machine.disk.Off()
		if c, is := t.tasks[n].(*conn); is && !on {
			c.powerGone()
		}
	}
}

// arrive lets the bytes come that come ahead of this step.
func (t *term) arrive() {
	for _, a := range t.plan.Arrivals {
		if c, is := t.tasks[a.Conn].(*conn); is && a.Step == t.step {
			c.arrive(a.Step, a.Bytes)
		}
	}
}

// askedAll is the requests, in the order in which they were taken.
func (t *term) askedAll() []api.Asked {
	var l []api.Asked
	for _, x := range t.asked {
		l = append(l, *x)
	}
	return l
}

// lines is what became of the connections.
func (t *term) lines() []api.Line {
	var l []api.Line
	for _, x := range t.tasks {
		if c, is := x.(*conn); is {
			l = append(l, api.Line{Output: c.output.String(), Closed: c.closed})
		}
	}
	return l
}

// chore is a task of the engine. What it refuses is passed over: the next call that it concerns is told.
type chore struct {
	term *term
	do   func(t *term, now uint64)
}

// Step does a step.
func (x *chore) Step(e *sched.Env) api.Move {
	x.do(x.term, x.term.at(e))
	return api.Move{}
}

func (t *term) layDown(uint64) {
	t.db.Flush()
}

func (t *term) merge(uint64) {
	t.db.Compact()
}

// sweep takes one session of each tenant out: how long one waits for that hangs on no other.
func (t *term) sweep(now uint64) {
	for _, x := range t.tenants() {
		sweep.Step(t.db, []string{x.Name}, now)
	}
}
