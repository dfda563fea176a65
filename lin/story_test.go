package lin_test

import (
	"testing"

	"atrium/api"
	"atrium/model"
)

// story makes a record by hand: a world tells what is asked in it.
type story struct {
	c     api.Config
	w     *model.World
	terms []api.Served
}

// tell begins with a term.
func tell(quotas ...int) *story {
	s := &story{c: config(quotas...)}
	s.w, _ = model.New(s.c.Tenants)
	return s.next()
}

// next begins the next term.
func (s *story) next() *story {
	s.terms = append(s.terms, api.Served{Lines: make([]api.Line, 8), Steps: 100})
	return s
}

func (s *story) term() *api.Served {
	return &s.terms[len(s.terms)-1]
}

// add puts a request behind the others; its Point is behind theirs.
func (s *story) add(c api.Call, tick uint64, a api.Answer, fate int) *story {
	x := s.term()
	n := len(x.Asked)
	x.Asked = append(x.Asked, api.Asked{Nth: n, Point: 3 * n, Done: 3*n + 1, Tick: tick, IsCall: true, Call: c, Answer: a, Status: a.Status, Fate: fate})
	x.Clock = max(x.Clock, tick)
	return s
}

// did is a call that is done, and told so.
func (s *story) did(c api.Call, tick uint64) *story {
	return s.add(c, tick, s.w.Do(c, tick), api.FateDone)
}

// lost is a call that is told 500, and is not done.
func (s *story) lost(c api.Call, tick uint64, fate int) *story {
	return s.add(c, tick, failed(), fate)
}

// hidden is a call that is told 500, though it is done.
func (s *story) hidden(c api.Call, tick uint64) *story {
	s.w.Do(c, tick)
	return s.add(c, tick, failed(), api.FateUnsure)
}

func failed() api.Answer {
	return api.Answer{Status: 500, Word: "failed"}
}

// told is the record. The end is the world's.
func (s *story) told() api.Told {
	x := api.Told{Terms: s.terms}
	for i := range s.c.Tenants {
		x.End = append(x.End, api.Kept{Sessions: s.w.Live(i, s.term().Clock), Entries: s.w.Entries(i)})
	}
	return copied(x)
}

// look looks at a record that is the story's, or is turned.
func (s *story) look(t *testing.T, what string, turn func(x *api.Told)) looked {
	t.Helper()
	return look(t, what, s.c, make([]api.Term, len(s.terms)), turned(s.told(), turn))
}

func asItIs(*api.Told) {}

// wants holds what Explain and Worlds tell of the story.
func (s *story) wants(t *testing.T, what string, explain found, worlds int, turn func(x *api.Told)) {
	t.Helper()
	got := s.look(t, what, turn)
	want(t, what+": Order", got.order, fine)
	want(t, what+": Explain", got.explain, explain)
	want(t, what+": Worlds", got.worlds, worlds)
}

// The calls of the tenant 0, but where it is said.

func made(user string, ttl int) api.Call {
	return api.Call{Kind: api.CallCreate, User: user, Data: "x", TTL: ttl}
}

func read(n uint64) api.Call {
	return api.Call{Kind: api.CallGet, Token: token(n, 0)}
}

func touched(n uint64, ttl int) api.Call {
	return api.Call{Kind: api.CallTouch, Token: token(n, 0), TTL: ttl}
}

func revoked(n uint64) api.Call {
	return api.Call{Kind: api.CallRevoke, Token: token(n, 0)}
}

func counted() api.Call {
	return api.Call{Kind: api.CallStats}
}

func of(tenant int, c api.Call) api.Call {
	c.Tenant = tenant
	return c
}
