package lin_test

import (
	"math"
	"math/rand"
	"slices"
	"sync"
	"testing"

	"atrium/api"
	"atrium/lin"
	"atrium/model"
)

// turnAnswer changes a field of an answer.
func turnAnswer(r *rand.Rand, a *api.Answer) {
	switch r.Intn(13) {
	case 0:
		a.Status = pickOf(r, 200, 201, 204, 400, 404, 429, 500, 0)
	case 1:
		a.Word += pickOf(r, "x", "bad")
	case 2:
		a.Token += "A"
	case 3:
		a.User += "a"
	case 4:
		a.Data += "x"
	case 5:
		a.Expires++
	case 6:
		a.Revoked--
	case 7:
		a.Tokens = append(a.Tokens, token(1, 1))
	case 8:
		a.Entries = append(a.Entries, api.Entry{Number: 1})
	case 9:
		a.Head += "0"
	case 10:
		a.Live++
	case 11:
		a.Users, a.Total = a.Users+1, a.Total-1
	default:
		a.Next++
	}
}

// turnEnd changes what a tenant has in the end.
func turnEnd(r *rand.Rand, k *api.Kept) {
	if len(k.Entries) == 0 {
		k.Entries = []api.Entry{{Number: 1, Kind: api.CallCreate}}
		return
	}
	i := r.Intn(len(k.Entries))
	x := &k.Entries[i]
	switch r.Intn(6) {
	case 0:
		x.Number++
	case 1:
		x.Kind++
	case 2:
		x.Tick++
	case 3:
		x.Subject += "x"
	case 4:
		k.Entries = slices.Delete(k.Entries, i, i+1)
	default:
		k.Entries = slices.Insert(k.Entries, i, *x)
	}
}

// unsures is how many requests there are of which nobody knows.
func unsures(x api.Told) int {
	n := 0
	for _, s := range x.Terms {
		if _, is := unsureOf(s); is {
			n++
		}
	}
	return n
}

func TestTurnedPlays(t *testing.T) { // P29.5
	answers, ends, bytes := 0, 0, 0
	plays(func(p played) {
		what, r, c, l, x := p.what, p.r, p.c, p.l, p.x
		if x.Err != api.OK {
			return
		}
		sure := unsures(x) == 0
		i := r.Intn(len(x.Terms))
		if asked := x.Terms[i].Asked; len(asked) > 0 {
			j := r.Intn(len(asked))
			y := turned(x, func(x *api.Told) { turnAnswer(r, &x.Terms[i].Asked[j].Answer) })
			a, b := asked[j], y.Terms[i].Asked[j]
			got := look(t, what+": an Answer", c, l, y)
			if sure && a.Fate == api.FateDone && !model.Same(a.Answer, b.Answer) {
				answers++
				if a.IsCall {
					want(t, what+": an Answer: Explain", got.explain, bad(i))
				} else {
					want(t, what+": an Answer of what is no call: Sent", got.sent, bad(i))
				}
			}
		}
		i = r.Intn(len(x.End))
		y := turned(x, func(x *api.Told) { turnEnd(r, &x.End[i]) })
		if got := look(t, what+": an entry", c, l, y); sure {
			ends++
			want(t, what+": an entry: Explain", got.explain, bad(len(l)))
		}
		i = r.Intn(len(x.Terms))
		for conn, s := range x.Terms[i].Lines {
			if len(s.Output) == 0 {
				continue
			}
			y := turned(x, func(x *api.Told) {
				b := []byte(s.Output)
				b[r.Intn(len(b))] ^= byte(1 + r.Intn(255))
				x.Terms[i].Lines[conn].Output = string(b)
			})
			bytes++
			want(t, what+": a byte: Sent", look(t, what+": a byte", c, l, y).sent, bad(i))
		}
	})
	if answers < 100 || ends < 150 || bytes < 700 {
		t.Errorf("turned: %d answers, %d entries, %d bytes", answers, ends, bytes)
	}
}

// turnAsked changes a request's record.
func turnAsked(r *rand.Rand, a *api.Asked) {
	switch r.Intn(12) {
	case 0:
		a.Conn = pickOf(r, r.Intn(8), -1, 8)
	case 1:
		a.Nth += pickOf(r, 1, -1)
	case 2:
		a.First += pickOf(r, 1, -1, 50)
	case 3:
		a.Point = pickOf(r, -1, a.Point+1, a.Point-1, a.Point+9)
	case 4:
		a.Done = pickOf(r, -1, a.Done+1, a.Point, a.Point-1, a.Done+9)
	case 5:
		a.Tick = pickOf(r, 0, a.Tick+1, a.Tick+40, math.MaxUint64)
	case 6:
		a.IsCall = !a.IsCall
	case 7:
		a.Call.Kind = 1 + r.Intn(9)
	case 8:
		a.Call.TTL++
	case 9:
		a.Status = pickOf(r, 0, 200, 400, 404)
	case 10:
		a.Fate = r.Intn(5)
	default:
		turnAnswer(r, &a.Answer)
	}
}

// turnAny changes anything.
func turnAny(r *rand.Rand, x *api.Told) {
	if len(x.Terms) == 0 {
		return
	}
	s := &x.Terms[r.Intn(len(x.Terms))]
	switch k := r.Intn(14); {
	case k == 0:
		s.Open = pickOf(r, api.OK, api.ErrIO)
	case k == 1:
		s.Steps += pickOf(r, 1, -1, 20, -20)
	case k == 2:
		s.Clock += uint64(r.Intn(30))
	case k == 3:
		s.Lines = s.Lines[:r.Intn(len(s.Lines)+1)]
	case k == 4 && len(s.Lines) > 0:
		y := &s.Lines[r.Intn(len(s.Lines))]
		y.Closed = !y.Closed
	case k == 5 && len(x.End) > 0:
		turnEnd(r, &x.End[r.Intn(len(x.End))])
	case k == 6:
		x.Terms = x.Terms[:r.Intn(len(x.Terms))+1]
	case k == 7 && len(s.Asked) > 0:
		i := r.Intn(len(s.Asked))
		s.Asked = slices.Delete(s.Asked, i, i+1)
	case k == 8 && len(s.Asked) > 1:
		i, j := r.Intn(len(s.Asked)), r.Intn(len(s.Asked))
		s.Asked[i], s.Asked[j] = s.Asked[j], s.Asked[i]
	case k == 9 && len(s.Asked) > 1:
		i, j := r.Intn(len(s.Asked)), r.Intn(len(s.Asked))
		s.Asked[i].Point, s.Asked[j].Point = s.Asked[j].Point, s.Asked[i].Point
	case len(s.Asked) > 0:
		turnAsked(r, &s.Asked[r.Intn(len(s.Asked))])
	}
}

func TestAnyTurn(t *testing.T) { // P29.1 to P29.3: whatever is turned, it is told as it is told a second time
	met := map[string]int{}
	plays(func(p played) {
		what, r, c, l, x := p.what, p.r, p.c, p.l, p.x
		for range 6 {
			y := turned(x, func(x *api.Told) {
				for range 1 + r.Intn(3) {
					turnAny(r, x)
				}
			})
			got := look(t, what, c, l, y)
			for name, is := range map[string]bool{"Order": got.order.is, "Explain": got.explain.is, "Sent": got.sent.is, "Worlds": got.worlds > 0, "a later term": !got.order.is && got.order.n > 0, "later than explained": got.explain.n > 0, "later than sent": got.sent.n > 0, "several worlds": got.worlds > 1} {
				if is {
					met[name]++
				} else {
					met["not "+name]++
				}
			}
		}
	})
	for _, name := range []string{"Order", "Explain", "Sent", "Worlds", "not Order", "not Explain", "not Sent", "not Worlds", "a later term", "later than explained", "later than sent", "several worlds"} {
		if met[name] < 100 {
			t.Errorf("%s: %v", name, met)
		}
	}
}

func TestOthersAnswers(t *testing.T) { // P29.5: the Answer of another call
	for j := range 40 {
		d := newDice(int64(4000 + j))
		l := d.terms(2, func(*api.Term) {})
		x := play(t, d.c, l...)
		for i, s := range x.Terms {
			a, b := d.r.Intn(len(s.Asked)+1), d.r.Intn(len(s.Asked)+1)
			if max(a, b) >= len(s.Asked) || s.Asked[a].Fate != api.FateDone || !s.Asked[a].IsCall || model.Same(s.Asked[a].Answer, s.Asked[b].Answer) {
				continue
			}
			got := look(t, "another's", d.c, l, turned(x, func(x *api.Told) { x.Terms[i].Asked[a].Answer = s.Asked[b].Answer }))
			want(t, "another's: Explain", got.explain, bad(i))
		}
	}
}

func TestAtOnce(t *testing.T) { // R4: it hangs on its arguments alone
	d := newDice(5)
	l := d.terms(3, func(x *api.Term) { x.Faults, x.Crash = d.faults(), d.crash() })
	x := play(t, d.c, l...)
	var all [8]looked
	var group sync.WaitGroup
	for i := range all {
		group.Go(func() {
			got := &all[i]
			got.order.is, got.order.n = lin.Order(d.c, l, x)
			got.explain.is, got.explain.n = lin.Explain(d.c, l, x)
			got.sent.is, got.sent.n = lin.Sent(d.c, l, x)
			got.worlds = lin.Worlds(d.c, x)
		})
	}
	group.Wait()
	for _, got := range all {
		want(t, "at once", got, all[0])
	}
	want(t, "at once", []found{all[0].order, all[0].explain, all[0].sent}, []found{fine, fine, fine})
}
