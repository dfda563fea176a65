package lin_test

import (
	"fmt"
	"reflect"
	"slices"
	"sort"

	"atrium/api"
	"atrium/http"
	"atrium/model"
	"atrium/reply"
	"atrium/server"
	"atrium/svc"
)

// orderAgain is Order, told a second time: each two requests are held against one another.
func orderAgain(l []api.Term, x api.Told) found {
	if len(x.Terms) != len(l) {
		return bad0
	}
	for i, s := range x.Terms {
		if s.Open == api.OK && !termInOrder(s) {
			return bad(i)
		}
	}
	return fine
}

func termInOrder(s api.Served) bool {
	is := len(s.Lines) == 8
	for i, a := range s.Asked {
		ahead := 0
		for _, b := range s.Asked[:i] {
			if b.Conn == a.Conn {
				ahead++
			}
			is = is && (b.Point != a.Point || a.Point < 0) && (b.Fate != api.FateUnsure || a.Fate != api.FateUnsure)
		}
		is = is && a.Nth == ahead && (a.Point < 0 || a.First <= a.Point && a.Point < s.Steps)
		is = is && (a.Done < 0 || a.Point >= 0 && a.Point <= a.Done && a.Done < s.Steps)
	}
	return is
}

// path is one of all the ways in which the unsure ones may have gone: a world, and whether it still may stand.
type path struct {
	w     *model.World
	stand bool
}

// paths is what becomes of all ways: behind each term how many stand. Each way is gone from the beginning on, with a world of its own.
func paths(c api.Config, l []api.Served) ([]path, []int) {
	unsure := 0
	for _, s := range l {
		if _, is := unsureOf(s); is {
			unsure++
		}
	}
	standing := make([]int, len(l))
	var all []path
	for way := range 1 << unsure {
		w, e := model.New(c.Tenants)
		p := path{w, e == api.OK}
		bit := 0
		for i, s := range l {
			p.goOn(s, way>>bit&1 == 1)
			if _, is := unsureOf(s); is {
				bit++
			}
			if p.stand {
				standing[i]++
			}
		}
		all = append(all, p)
	}
	return all, standing
}

// unsureOf is the request of a term that may have been done.
func unsureOf(s api.Served) (api.Asked, bool) {
	for _, a := range s.Asked {
		if s.Open == api.OK && a.Fate == api.FateUnsure {
			return a, true
		}
	}
	return api.Asked{}, false
}

func (p *path) goOn(s api.Served, unsureToo bool) {
	if s.Open != api.OK || !p.stand {
		return
	}
	l := slices.Clone(s.Asked)
	sort.SliceStable(l, func(i, j int) bool { return l[i].Point < l[j].Point })
	for _, a := range l {
		if a.IsCall && a.Fate == api.FateDone && !reflect.DeepEqual(plainAnswer(p.w.Do(a.Call, a.Tick)), plainAnswer(a.Answer)) {
			p.stand = false
		}
	}
	if a, is := unsureOf(s); is && unsureToo {
		done := p.w.Do(a.Call, a.Tick)
		p.stand = p.stand && a.IsCall && model.Mutates(a.Call, done)
	}
}

func plainAnswer(a api.Answer) api.Answer {
	a.Tokens, a.Entries = ownList(a.Tokens), ownList(a.Entries)
	return a
}

// explainAgain is Explain, told a second time.
func explainAgain(c api.Config, l []api.Term, x api.Told) found {
	if o := orderAgain(l, x); !o.is {
		return o
	}
	if _, e := model.New(c.Tenants); e != api.OK {
		return bad0
	}
	all, standing := paths(c, x.Terms)
	if i := slices.Index(standing, 0); i >= 0 {
		return bad(i)
	}
	clock := uint64(0)
	for _, s := range x.Terms {
		clock = s.Clock
	}
	for _, p := range all {
		var end []api.Kept
		for i := range c.Tenants {
			end = append(end, api.Kept{Sessions: ownList(p.w.Live(i, clock)), Entries: ownList(p.w.Entries(i))})
		}
		if p.stand && reflect.DeepEqual(end, copied(x).End) {
			return fine
		}
	}
	return bad(len(x.Terms))
}

// worldsAgain is Worlds, told a second time.
func worldsAgain(c api.Config, x api.Told) int {
	for _, s := range x.Terms {
		n := 0
		for _, a := range s.Asked {
			if a.Fate == api.FateUnsure && s.Open == api.OK {
				n++
			}
		}
		if n > 1 {
			return 0
		}
	}
	all, _ := paths(c, x.Terms)
	met := map[string]bool{}
	for _, p := range all {
		if !p.stand {
			continue
		}
		s := ""
		for i := range c.Tenants {
			s += fmt.Sprintf("%d %q %q\n", p.w.Next(i), fmt.Sprint(p.w.Live(i, 0)), fmt.Sprint(p.w.Entries(i)))
		}
		met[s] = true
	}
	return len(met)
}

// sentAgain is Sent, told a second time: each connection's requests are cut out first, then held against those of the record.
func sentAgain(c api.Config, l []api.Term, x api.Told) found {
	if o := orderAgain(l, x); !o.is {
		return o
	}
	if _, e := model.New(c.Tenants); e != api.OK {
		return bad0
	}
	for i, s := range x.Terms {
		on := map[int][]api.Asked{}
		for _, a := range s.Asked {
			on[a.Conn] = append(on[a.Conn], a)
		}
		for conn := range 8 {
			var told api.Line
			if conn < len(s.Lines) {
				told = s.Lines[conn]
			}
			if !lineFits(c, l[i], s.Steps, conn, on[conn], told) {
				return bad(i)
			}
			delete(on, conn)
		}
		if len(on) > 0 {
			return bad(i)
		}
	}
	return fine
}

// asking is a request that came.
type asking struct {
	first   int
	r       api.Request
	call    api.Call
	is      bool
	refusal api.Reply
}

// requests is those that came on a connection, up to the one behind which none can come, whatever is answered.
func requests(c api.Config, x api.Term, steps, conn int) []asking {
	bytes := ""
	var since []int // of each byte: ahead of which step it came
	for step := range min(steps, 5000) {
		for _, a := range x.Arrivals {
			if a.Step == step && a.Conn == conn {
				bytes += a.Bytes
				since = append(since, slices.Repeat([]int{step}, len(a.Bytes))...)
			}
		}
	}
	var l []asking
	for {
		r, size, e := http.Parse(bytes)
		q := asking{r: r}
		switch e {
		case api.ErrNone:
			return l
		case api.OK:
			q.call, q.refusal, q.is = server.Meaning(c.Tenants, r)
			if q.is && q.call.Kind == api.CallCreate {
				q.call.Draw = server.Draw(x.Timing, conn, len(l))
			}
		case api.ErrHead:
			q.refusal = reply.Error(400, "request")
		case api.ErrBig:
			q.refusal = reply.Error(413, "large")
		case api.ErrWide:
			q.refusal = reply.Error(431, "wide")
		}
		q.first = since[0]
		l = append(l, q)
		bytes, since = bytes[size:], since[size:]
		if r.Close || q.refusal.Status == 400 || e != api.OK {
			return l
		}
	}
}

func lineFits(c api.Config, x api.Term, steps, conn int, asked []api.Asked, told api.Line) bool {
	l := requests(c, x, steps, conn)
	if len(asked) > len(l) {
		return false
	}
	var should api.Line
	for i, a := range asked {
		q := l[i]
		if a.First != q.first || a.IsCall != q.is || a.Call != q.call {
			return false
		}
		back := q.refusal
		if q.is {
			back = svc.Reply(a.Call, a.Answer)
		} else if a.Status != back.Status || !reflect.DeepEqual(plainAnswer(a.Answer), api.Answer{}) {
			return false
		}
		back.Close = back.Close || q.r.Close
		if back.Close && i+1 < len(asked) {
			return false
		}
		if a.Done >= 0 {
			bytes, _ := reply.Write(back)
			should = api.Line{Output: should.Output + bytes, Closed: back.Close}
		}
	}
	return told == should
}
