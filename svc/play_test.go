package svc_test

import (
	"fmt"
	"math/rand"
	"slices"
	"strings"
	"testing"

	"atrium/api"
	"atrium/model"
	"atrium/reply"
	"atrium/svc"
	"atrium/sweep"
	"atrium/vfs"
)

// player plays calls on a bench.
type player struct {
	*bench
	r      *rand.Rand
	f      *vfs.FS
	tokens []string
	now    uint64
	told   map[int]int // how often each Status was; of 0 how many were swept
}

func newPlayer(t *testing.T, seed int64, quotas ...int) *player {
	t.Helper()
	f, _ := vfs.New(api.MaxDisk)
	return &player{bench: benchOn(t, open(t, f), quotas...), r: rand.New(rand.NewSource(seed)), f: f, tokens: []string{"none"}, told: map[int]int{}}
}

func pickOf[T any](r *rand.Rand, l ...T) T {
	return l[r.Intn(len(l))]
}

// call is any call; most may be done.
func (p *player) call() api.Call {
	r := p.r
	c := api.Call{
		Kind:   pickOf(r, 1, 1, 1, 1, 1, 2, 3, 3, 4, 4, 5, 6, 7, 8, 9, 10),
		Tenant: r.Intn(len(p.l)),
		Token:  p.tokens[max(0, len(p.tokens)-1-r.Intn(9))],
		User:   pickOf(r, "ada", "eve", "é", "\"", ""),
		Data:   pickOf(r, "", "x", "\n", strings.Repeat("y", 400)),
		TTL:    pickOf(r, 1, 3, 9, 30, 1<<31-1, 0),
		From:   r.Intn(30),
		Draw:   r.Uint64(),
	}
	if l := p.w.Live(c.Tenant, p.now); len(l) > 0 && r.Intn(3) > 0 {
		c.Token = pickOf(r, l...).Token
	}
	if r.Intn(30) == 0 {
		c.Tenant = pickOf(r, -1, len(p.l))
	}
	return c
}

// note keeps what an answer gave.
func (p *player) note(c api.Call, a api.Answer) {
	p.told[a.Status]++
	if a.Status == 201 {
		p.tokens = append(p.tokens, a.Token)
	}
	r := svc.Reply(c, a)
	want(p.t, "its reply may be", reply.Check(r), api.OK)
	want(p.t, "its reply's Status", r.Status, a.Status)
}

// between is what the engine does between calls; not an opening anew.
func (p *player) between() {
	switch p.r.Intn(4) {
	case 0:
		p.d.Freeze()
	case 1:
		p.d.Flush()
	case 2:
		p.d.Compact()
	default:
		p.now += uint64(p.r.Intn(4))
	}
}

// sweep sweeps at a tick up to which no call goes back.
func (p *player) sweep(at uint64) {
	p.t.Helper()
	names := []string{"none", "No"}
	for _, t := range p.l {
		names = append(names, t.Name)
	}
	n, e := sweep.Run(p.d, names, at, 1<<20)
	want(p.t, "Run", e, api.OK)
	p.swept = max(p.swept, at)
	p.told[0] += n
}

func TestPlays(t *testing.T) { // P25.5, P25.7: one call behind the other, with whatever the engine does between
	told := map[int]int{}
	for seed := range int64(16) {
		p := newPlayer(t, seed, 3, 20, 0, 7)
		for range 130 {
			switch p.r.Intn(8) {
			case 0:
				p.between()
			case 1:
				p.sweep(p.now - uint64(p.r.Intn(int(min(p.now, 3)+1))))
			case 2:
				if p.r.Intn(4) == 0 {
					p.f.Crash(api.Crash{Dir: p.r.Intn(p.f.Pending() + 1)})
					p.d = open(t, p.f)
				}
			default:
				c := p.call()
				p.note(c, p.do(c, p.now))
			}
			p.check(p.now)
		}
		for status, n := range p.told {
			told[status] += n
		}
	}
	for _, status := range []int{0, 200, 201, 204, 400, 404, 429} { // 0: what was swept
		if told[status] < 10 {
			t.Errorf("told: %v", told)
		}
	}
}

func TestPlaysBack(t *testing.T) { // P25.5: at any ticks, also where the clock is turned back
	for seed := range int64(8) {
		p := newPlayer(t, 1000+seed, 3, 9)
		for range 100 {
			c := p.call()
			p.note(c, p.do(c, pickOf(p.r, uint64(p.r.Intn(40)), 1<<31, 1<<63-1, 1<<64-1)))
			if p.r.Intn(5) == 0 {
				p.between()
			}
		}
	}
}

// waiting is a call that waits for its commit.
type waiting struct {
	o    *svc.Op
	c    api.Call
	now  uint64
	seen int // how many entries its tenant had when it was prepared
}

// among is calls that are prepared and committed among one another.
type among struct {
	*player
	waits []*waiting
	ended map[api.Errno]int
}

// prepare prepares a call, which is told what the model would tell now.
func (m *among) prepare(c api.Call) {
	m.t.Helper()
	o := prepare(m.t, m.d, m.l, c, m.now)
	should := m.w.Fork().Do(c, m.now)
	wantAnswer(m.t, told(c, m.now), o.Answer(), should)
	want(m.t, "Ready", o.Ready(), !model.Mutates(c, should))
	if o.Ready() {
		m.note(c, m.w.Do(c, m.now))
		return
	}
	m.waits = append(m.waits, &waiting{o, c, m.now, len(m.w.Entries(c.Tenant))})
}

// finish commits one, or lets it be. One goes through just if nobody of its tenant came ahead of it.
func (m *among) finish(x *waiting) {
	m.t.Helper()
	if m.r.Intn(8) == 0 {
		x.o.Abort()
		want(m.t, "Commit behind Abort", x.o.Commit(), api.ErrClosed)
		return
	}
	e := x.o.Commit()
	m.ended[e]++
	if len(m.w.Entries(x.c.Tenant)) > x.seen {
		want(m.t, "somebody came ahead", e, api.ErrConflict)
		m.prepare(x.c)
		return
	}
	want(m.t, "it was the first one", e, api.OK)
	a := m.w.Do(x.c, x.now)
	wantAnswer(m.t, told(x.c, x.now)+", committed", x.o.Answer(), a)
	m.note(x.c, a)
}

func (m *among) step() {
	switch k := m.r.Intn(12); {
	case k < 2:
		m.between()
	case k < 3:
		m.sweep(m.oldest())
	case k < 8 && len(m.waits) < 6 || len(m.waits) == 0:
		m.prepare(m.call())
	default:
		i := m.r.Intn(len(m.waits))
		x := m.waits[i]
		m.waits = slices.Delete(m.waits, i, i+1)
		m.finish(x)
	}
}

// oldest is the least tick at which one that waits was prepared: none goes back behind it.
func (m *among) oldest() uint64 {
	least := m.now
	for _, x := range m.waits {
		least = min(least, x.now)
	}
	return least
}

func TestAmong(t *testing.T) { // P25.6, P25.7
	ended := map[api.Errno]int{}
	for seed := range int64(24) {
		m := &among{player: newPlayer(t, 2000+seed, 5, 30), ended: map[api.Errno]int{}}
		for range 150 {
			m.step()
			m.lies(m.now)
		}
		for _, x := range m.waits {
			x.o.Abort()
		}
		m.check(m.now)
		for e, n := range m.ended {
			ended[e] += n
		}
	}
	if ended[api.OK] < 100 || ended[api.ErrConflict] < 100 {
		t.Errorf("ended: %v", ended)
	}
}

func TestSweptMeanwhile(t *testing.T) { // P25.6: a session that was swept between a call's preparing and its commit
	for _, c := range mutations() {
		b := newBench(t, 9)
		tok := b.create(0, "ada", 5, 10)
		o := prepare(t, b.d, b.l, c, 14)
		n, e := sweep.Run(b.d, []string{"b"}, 15, 9)
		want(t, "swept", n, 1)
		want(t, "swept", e, api.OK)
		e = o.Commit()
		if c.Kind == api.CallCreate { // it does not touch that session
			want(t, "Commit", e, api.OK)
			continue
		}
		want(t, fmt.Sprint("Commit of ", c.Kind), e, api.ErrConflict)
		b.swept = 15
		b.check(15)
		a, e := svc.Do(b.d, b.l, api.Call{Kind: api.CallGet, Token: tok}, 15)
		want(t, "get", e, api.OK)
		wantAnswer(t, "get", a, missing)
	}
}
