package server_test

import (
	"iter"

	"atrium/api"
	"atrium/http"
	"atrium/lsm"
	"atrium/reply"
	"atrium/server"
	"atrium/svc"
	"atrium/sweep"
	"atrium/vfs"
)

// round is a term, told a second time: each connection is a program that goes on by a step at a time, the picks and the clock are gone through by hand.
type round struct {
	c      api.Config
	plan   api.Term
	disk   *vfs.FS
	db     *lsm.DB
	now    uint64
	step   int
	came   [8][]byte
	since  [8][]int // of each byte: ahead of which step it came
	served api.Served
	swept  []sweptOne
}

// sweptOne tells that a session of a tenant was swept at a step of a term.
type sweptOne struct{ term, step, tenant int }

// playAgain is Play of what may be played, and what was swept.
func playAgain(c api.Config, l []api.Term) (api.Told, []sweptOne) {
	disk, e := vfs.New(c.Capacity)
	if e != api.OK {
		return api.Told{Err: api.ErrServer}, nil
	}
	var told api.Told
	var all []sweptOne
	clock := uint64(0)
	for i, plan := range l {
		r := &round{c: c, plan: plan, disk: disk, now: clock}
		r.play()
		clock = r.now
		told.Terms = append(told.Terms, r.served)
		for _, x := range r.swept {
			x.term = i
			all = append(all, x)
		}
		crashAgain(disk, plan.Crash)
	}
	d, e := lsm.Open(disk, c.Options)
	if e != api.OK {
		told.Err = e
		return told, all
	}
	for _, t := range c.Tenants {
		s, _ := svc.Live(d, t.Name, clock)
		n, _ := svc.Entries(d, t.Name)
		told.End = append(told.End, api.Kept{Sessions: s, Entries: n})
	}
	return told, all
}

func crashAgain(disk *vfs.FS, c api.Crash) {
	if c.Dir < 0 {
		c.Dir = 0
	}
	if c.Dir > disk.Pending() {
		c.Dir = disk.Pending()
	}
	keep := make([]int, len(c.Keep))
	for i, n := range c.Keep {
		if n > 0 {
			keep[i] = n
		}
	}
	if e := disk.Crash(api.Crash{Dir: c.Dir, Keep: keep}); e != api.OK {
		panic(e)
	}
}

func (r *round) play() {
	r.disk.Fail(r.plan.Faults)
	r.disk.Stop(r.plan.Stop)
	d, e := lsm.Open(r.disk, r.c.Options)
	r.served.Open = e
	r.served.Lines = make([]api.Line, 8)
	r.served.Clock = r.now
	if e != api.OK {
		return
	}
	r.db = d
	var next [8]func() (int, bool)
	for i := range next {
		goOn, stop := iter.Pull(r.program(i))
		defer stop()
		next[i] = goOn
	}
	for r.step < r.plan.Steps {
		for _, a := range r.plan.Arrivals {
			if a.Step == r.step && !r.served.Lines[a.Conn].Closed {
				for _, b := range []byte(a.Bytes) {
					r.came[a.Conn] = append(r.came[a.Conn], b)
					r.since[a.Conn] = append(r.since[a.Conn], a.Step)
				}
			}
		}
		if r.step < len(r.plan.Timing.Ticks) {
			r.now += uint64(r.plan.Timing.Ticks[r.step])
		}
		n := 0
		if r.step < len(r.plan.Timing.Picks) {
			n = r.plan.Timing.Picks[r.step] % 11
		}
		switch n {
		case 8:
			d.Flush()
		case 9:
			d.Compact()
		case 10:
			r.sweepAll()
		default:
			next[n]()
		}
		r.step++
		if r.disk.Off() {
			break
		}
	}
	r.served.Steps, r.served.Clock = r.step, r.now
}

func (r *round) sweepAll() {
	for i, t := range r.c.Tenants {
		if did, e := sweep.Step(r.db, []string{t.Name}, r.now); did && e == api.OK {
			r.swept = append(r.swept, sweptOne{step: r.step, tenant: i})
		}
	}
}

// program is what a connection does; it stops behind each step.
func (r *round) program(conn int) iter.Seq[int] {
	return func(yield func(int) bool) {
		for nth := 0; ; {
			q, size, e := http.Parse(string(r.came[conn]))
			if e == api.ErrNone {
				if !yield(0) {
					return
				}
				continue
			}
			x := len(r.served.Asked)
			r.served.Asked = append(r.served.Asked, api.Asked{Conn: conn, Nth: nth, First: r.since[conn][0], Point: -1, Done: -1})
			r.came[conn], r.since[conn] = r.came[conn][size:], r.since[conn][size:]
			nth++
			if !r.one(x, q, e, yield) || !yield(0) {
				return
			}
		}
	}
}

// one does all that is to be done of a request, but for what stands behind its last step; false, if it came to no end.
func (r *round) one(x int, q api.Request, e api.Errno, yield func(int) bool) bool {
	me := func() *api.Asked { return &r.served.Asked[x] }
	wrong := map[api.Errno]api.Reply{api.ErrHead: reply.Error(400, "request"), api.ErrBig: reply.Error(413, "large"), api.ErrWide: reply.Error(431, "wide")}
	no, bad := wrong[e]
	var call api.Call
	if !bad {
		var is bool
		call, no, is = server.Meaning(r.c.Tenants, q)
		bad = !is
	}
	if bad {
		me().Status, me().Point, me().Done, me().Fate = no.Status, r.step, r.step, 1
		r.send(me().Conn, no, q.Close)
		return true
	}
	if call.Kind == api.CallCreate {
		first := append(append([]uint64(nil), r.plan.Timing.Draws...), 0)[0]
		call.Draw = drawOf(first, me().Conn, me().Nth)
	}
	me().IsCall, me().Call = true, call
	for me().Point < 0 {
		if !yield(0) {
			return false
		}
		now := r.now
		op, e := svc.Prepare(r.db, r.c.Tenants, call, now)
		fate := 1
		if e != api.OK {
			panic(e) // nothing that a play does may come to that
		}
		if !op.Ready() {
			if !yield(0) {
				return false
			}
			switch e := op.Commit(); {
			case e == api.ErrConflict:
				continue
			case e == api.ErrIO || e == api.OK && r.disk.Off():
				fate = 2
			case e != api.OK:
				fate = 3
			}
		}
		me().Answer, me().Point, me().Tick, me().Fate = op.Answer(), r.step, now, fate
		me().Status = me().Answer.Status
	}
	if !yield(0) {
		return false
	}
	me().Done = r.step
	r.send(me().Conn, svc.Reply(call, me().Answer), q.Close)
	return true
}

func (r *round) send(conn int, x api.Reply, closes bool) {
	x.Close = x.Close || closes
	s, e := reply.Write(x)
	if e != api.OK {
		panic(e)
	}
	line := &r.served.Lines[conn]
	line.Output += s
	if x.Close {
		line.Closed = true
		r.came[conn], r.since[conn] = nil, nil
	}
}
