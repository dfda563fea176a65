package server_test

import (
	"fmt"
	"slices"
	"sort"
	"strings"
	"testing"

	"atrium/api"
	"atrium/http"
	"atrium/model"
	"atrium/reply"
	"atrium/server"
	"atrium/svc"
)

// judge holds of a play what the chapter says that follows. It asks the model, and no engine.
func judge(t *testing.T, c api.Config, l []api.Term, x api.Told, swept []sweptOne) {
	t.Helper()
	w, e := model.New(c.Tenants)
	want(t, "New", e, api.OK)
	want(t, "how many terms", len(x.Terms), len(l))
	worlds := []*model.World{w}
	clock := uint64(0)
	for i, s := range x.Terms {
		what := fmt.Sprintf("term %d", i)
		judgeTerm(t, what, c, l[i], s, clock)
		judgeLines(t, what, c, l[i], s)
		if roomy(c, l[i]) {
			judgeEnds(t, what, l[i], s, swept, i)
		}
		worlds = judgeWorlds(t, what, worlds, s)
		clock = s.Clock
	}
	if x.Err != api.OK {
		want(t, "End", len(x.End), 0)
		if c.Capacity == api.MaxDisk {
			t.Errorf("Err %d", x.Err)
		}
		return
	}
	judgeEnd(t, c, worlds, x, clock)
}

// roomy tells whether nothing fails in a term, and there is room.
func roomy(c api.Config, x api.Term) bool {
	return c.Capacity == api.MaxDisk && x.Stop < 0 && len(x.Faults) == 0
}

// judgeTerm is the steps, the clock, and each request's own numbers.
func judgeTerm(t *testing.T, what string, c api.Config, x api.Term, s api.Served, clock uint64) {
	t.Helper()
	if roomy(c, x) { // P27.5
		want(t, what+": Open", s.Open, api.OK)
	}
	if s.Open != api.OK {
		want(t, what+": Steps without an engine", s.Steps, 0)
		want(t, what+": Asked without an engine", len(s.Asked), 0)
	} else if s.Steps != x.Steps && (x.Stop < 0 || s.Steps < 1 || s.Steps > x.Steps) {
		t.Errorf("%s: %d steps of %d", what, s.Steps, x.Steps)
	}
	for k := range min(s.Steps, len(x.Timing.Ticks)) {
		clock += uint64(x.Timing.Ticks[k])
	}
	want(t, what+": Clock", s.Clock, clock)
	unsure := 0
	points := map[int]int{}
	for _, a := range s.Asked {
		if a.Fate == api.FateUnsure {
			unsure++
		}
		if a.Point >= 0 {
			points[a.Point]++
		}
		determined := a.Point >= 0
		switch {
		case a.First < 0, determined && a.First > a.Point, a.Point >= s.Steps, a.Done >= s.Steps, a.Done >= 0 && (a.Done < a.Point || !determined):
			t.Errorf("%s: the steps of %+v", what, a)
		case determined != (a.Fate != api.FateOpen), determined != (a.Status != 0), a.Tick > s.Clock:
			t.Errorf("%s: what became of %+v", what, a)
		case !a.IsCall && (a.Call != api.Call{} || !model.Same(a.Answer, api.Answer{}) || a.Tick != 0 || a.Fate != api.FateDone || a.Done != a.Point):
			t.Errorf("%s: without a call %+v", what, a)
		case a.IsCall && a.Answer.Status != a.Status, !determined && (!model.Same(a.Answer, api.Answer{}) || a.Tick != 0):
			t.Errorf("%s: the answer of %+v", what, a)
		case (a.Fate == api.FateUnsure || a.Fate == api.FateNone) && roomy(c, x):
			t.Errorf("%s: nothing failed, but %+v", what, a)
		case a.Fate == api.FateNone && a.Status != 500 && a.Status != 507, a.Fate == api.FateDone && (a.Status == 500 || a.Status == 507):
			t.Errorf("%s: the fate of %+v", what, a)
		}
	}
	if unsure > 1 {
		t.Errorf("%s: %d unsure", what, unsure)
	}
	for k, n := range points {
		if n > 1 || pickAt(x, k) > 7 {
			t.Errorf("%s: %d points at %d", what, n, k)
		}
	}
}

// pickAt is the task whose step is the kth.
func pickAt(x api.Term, k int) int {
	if k >= len(x.Timing.Picks) {
		return 0
	}
	return x.Timing.Picks[k] % tasks
}

// judgeLines is P27.8, and what was asked: requests are cut out of all that came, and what was sent is their replies.
func judgeLines(t *testing.T, what string, c api.Config, x api.Term, s api.Served) {
	t.Helper()
	want(t, what+": how many lines", len(s.Lines), 8)
	for conn, line := range s.Lines {
		var asked []api.Asked
		for _, a := range s.Asked {
			if a.Conn == conn {
				asked = append(asked, a)
			}
		}
		sent, closed := judgeLine(t, fmt.Sprintf("%s: connection %d", what, conn), c, x, s.Steps, asked, conn)
		want(t, fmt.Sprintf("%s: sent on %d", what, conn), line.Output, sent)
		want(t, fmt.Sprintf("%s: closed %d", what, conn), line.Closed, closed)
		if l, at, e := reply.All(line.Output); e != api.OK || at != len(line.Output) || len(l) > len(asked) {
			t.Errorf("%s: sent on %d: no replies: %.300q", what, conn, line.Output)
		}
	}
}

// judgeLine is what should have been sent on a connection, and whether it is closed.
func judgeLine(t *testing.T, what string, c api.Config, x api.Term, steps int, asked []api.Asked, conn int) (string, bool) {
	t.Helper()
	bytes, since := cameOn(x, steps, conn)
	sent, open := "", true
	for nth, a := range asked {
		want(t, what+": Nth", a.Nth, nth)
		if !open {
			t.Errorf("%s: asked behind its end: %+v", what, a)
			break
		}
		r, size, e := http.Parse(bytes)
		if e == api.ErrNone {
			t.Errorf("%s: no request is there, but %+v", what, a)
			break
		}
		want(t, what+": First", a.First, since[0])
		if a.Point >= 0 && a.Point < since[max(size, 1)-1] {
			t.Errorf("%s: determined ahead of its last byte: %+v", what, a)
		}
		bytes, since = bytes[size:], since[size:]
		call, no, is := api.Call{}, api.Reply{Status: map[api.Errno]int{api.ErrHead: 400, api.ErrBig: 413, api.ErrWide: 431}[e]}, false
		if e == api.OK {
			call, no, is = server.Meaning(c.Tenants, r)
		} else {
			no = reply.Error(no.Status, map[int]string{400: "request", 413: "large", 431: "wide"}[no.Status])
		}
		if is && call.Kind == api.CallCreate {
			call.Draw = server.Draw(x.Timing, conn, nth)
		}
		want(t, what+": IsCall", a.IsCall, is)
		want(t, what+": Call", a.Call, call)
		if is {
			no = svc.Reply(call, a.Answer)
		} else {
			want(t, what+": Status", a.Status, no.Status)
		}
		if a.Done < 0 { // what comes behind waits
			open = false
			continue
		}
		no.Close = no.Close || r.Close
		b, e := reply.Write(no)
		want(t, what+": Write", e, api.OK)
		sent += b
		if no.Close {
			want(t, what+": asked behind its end", len(asked), nth+1)
			return sent, true
		}
	}
	return sent, false
}

// cameOn is what came on a connection ahead of the steps that were done, and of each byte ahead of which one.
func cameOn(x api.Term, steps, conn int) (string, []int) {
	l := slices.Clone(x.Arrivals)
	sort.SliceStable(l, func(i, j int) bool { return l[i].Step < l[j].Step })
	var b strings.Builder
	var since []int
	for _, a := range l {
		if a.Conn == conn && a.Step < steps {
			b.WriteString(a.Bytes)
			since = append(since, slices.Repeat([]int{a.Step}, len(a.Bytes))...)
		}
	}
	return b.String(), since
}

// judgeEnds is P27.7: within how many steps of its connection each request is answered.
func judgeEnds(t *testing.T, what string, x api.Term, s api.Served, swept []sweptOne, n int) {
	t.Helper()
	for conn := range 8 {
		bytes, since := cameOn(x, s.Steps, conn)
		begin := 0 // the first step at which no request of the connection is ahead
		for nth := 0; ; nth++ {
			r, size, e := http.Parse(bytes)
			if e != api.OK {
				break
			}
			begin = max(begin, since[size-1])
			i := slices.IndexFunc(s.Asked, func(a api.Asked) bool { return a.Conn == conn && a.Nth == nth })
			end := s.Steps
			if i >= 0 && s.Asked[i].Done >= 0 {
				end = s.Asked[i].Done + 1
			}
			own := 0
			for k := begin; k < end; k++ {
				if pickAt(x, k) == conn {
					own++
				}
			}
			call, _, is := server.Meaning(nil, r) // of no tenants it is none: whose it is is asked of the record
			if i >= 0 {
				call, is = s.Asked[i].Call, s.Asked[i].IsCall
			}
			most := 4
			for _, a := range s.Asked {
				if is && a.IsCall && a.Call.Tenant == call.Tenant && a.Fate == api.FateDone && model.Mutates(a.Call, a.Answer) && a.Point >= begin && a.Point < end {
					most += 2
				}
			}
			for _, y := range swept {
				if is && y.term == n && y.tenant == call.Tenant && y.step >= begin && y.step < end {
					most += 2
				}
			}
			answered := end < s.Steps || i >= 0 && s.Asked[i].Done >= 0
			if own > most || !answered && own >= most {
				t.Errorf("%s: request %d on %d took %d steps of its connection, not %d at most", what, nth, conn, own, most)
			}
			if !answered || s.Asked[i].Status == 400 || r.Close {
				break
			}
			begin = end
			bytes, since = bytes[size:], since[size:]
		}
	}
}

// judgeWorlds is P27.4: in which worlds the term may have ended.
func judgeWorlds(t *testing.T, what string, worlds []*model.World, s api.Served) []*model.World {
	t.Helper()
	l := slices.DeleteFunc(slices.Clone(s.Asked), func(a api.Asked) bool { return !a.IsCall || a.Point < 0 })
	sort.Slice(l, func(i, j int) bool { return l[i].Point < l[j].Point })
	var behind []*model.World
	for _, w := range worlds {
		w = w.Fork()
		unsure := (*api.Asked)(nil)
		fits := true
		for i, a := range l {
			switch a.Fate {
			case api.FateDone:
				fits = fits && model.Same(w.Do(a.Call, a.Tick), a.Answer)
			case api.FateUnsure:
				unsure = &l[i]
			}
		}
		if !fits {
			continue
		}
		behind = append(behind, w)
		if unsure != nil {
			w = w.Fork()
			w.Do(unsure.Call, unsure.Tick)
			behind = append(behind, w)
		}
	}
	if len(behind) == 0 {
		t.Fatalf("%s: the model tells other things than %+v", what, l)
	}
	return behind
}

// judgeEnd is that the End is that of one of some worlds.
func judgeEnd(t *testing.T, c api.Config, worlds []*model.World, x api.Told, clock uint64) {
	t.Helper()
	want(t, "how many have an End", len(x.End), len(c.Tenants))
	for _, w := range worlds {
		same := true
		for i, k := range x.End {
			same = same && slices.Equal(k.Sessions, w.Live(i, clock)) && slices.Equal(k.Entries, w.Entries(i))
		}
		if same {
			return
		}
	}
	t.Errorf("End: %.2000s", fmt.Sprintf("%+v", x.End))
}
