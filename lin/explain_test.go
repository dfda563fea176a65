package lin_test

import (
	"math"
	"slices"
	"testing"

	"atrium/api"
	"atrium/model"
)

// long is three terms in which much is asked, of two tenants.
func long() *story {
	s := tell(9, 9)
	s.did(made("ada", 50), 1).did(made("eve", 3), 2).did(of(1, made("ada", 50)), 2).did(read(1), 3)
	s.next().did(touched(1, 70), 4).did(counted(), 4).did(read(2), 5).did(of(1, revoked(1)), 5)
	s.next().did(api.Call{Kind: api.CallList, User: "ada"}, 6).did(api.Call{Kind: api.CallAudit, From: 1}, 7).did(of(1, counted()), 7).did(made("bob", 9), 8)
	return s
}

func TestExplained(t *testing.T) { // P29.2
	long().wants(t, "as it is", fine, 1, asItIs)
	tell(9).wants(t, "nothing asked", fine, 1, asItIs)
	tell(9).next().next().wants(t, "nothing asked in three terms", fine, 1, asItIs)
	for _, x := range []struct {
		what      string
		term, nth int
		turn      func(a *api.Asked)
		should    found
		worlds    int
	}{
		{"Expires", 0, 0, func(a *api.Asked) { a.Answer.Expires++ }, bad0, 0},
		{"a User", 0, 3, func(a *api.Asked) { a.Answer.User = "eve" }, bad0, 0},
		{"another Status", 1, 0, func(a *api.Asked) { a.Answer = api.Answer{Status: 404, Word: "missing"} }, bad(1), 0},
		{"Next", 1, 1, func(a *api.Asked) { a.Answer.Next++ }, bad(1), 0},
		{"no Tokens", 2, 0, func(a *api.Asked) { a.Answer.Tokens = nil }, bad(2), 0},
		{"an entry that is told", 2, 1, func(a *api.Asked) { a.Answer.Entries[1].Tick++ }, bad(2), 0},
		{"no Head", 2, 1, func(a *api.Asked) { a.Answer.Head = "" }, bad(2), 0},
		{"500", 2, 3, func(a *api.Asked) { a.Answer = failed() }, bad(2), 0},
		{"no Answer", 2, 3, func(a *api.Asked) { a.Answer = api.Answer{} }, bad(2), 0},
		{"a create's Tick", 0, 0, func(a *api.Asked) { a.Tick++ }, bad0, 0},
		{"a read's Tick", 0, 3, func(a *api.Asked) { a.Tick = 60 }, bad0, 0},
		{"a Tick at which one still lives", 1, 2, func(a *api.Asked) { a.Tick-- }, bad(1), 0},
		{"a Tick that the list alone tells", 1, 3, func(a *api.Asked) { a.Tick-- }, bad(3), 1},
		{"a Tick of the last term", 2, 3, func(a *api.Asked) { a.Tick = 0 }, bad(2), 0},
		{"a Tick that nothing tells", 0, 3, func(a *api.Asked) { a.Tick = 9 }, fine, 1},
		{"another Draw", 0, 0, func(a *api.Asked) { a.Call.Draw = 5 }, bad0, 0},
		{"a user that nothing tells", 0, 1, func(a *api.Asked) { a.Call.User = "joe" }, fine, 1},
		{"another tenant", 0, 2, func(a *api.Asked) { a.Call.Tenant = 0 }, bad0, 0},
		{"a tenant that is none", 2, 2, func(a *api.Asked) { a.Call.Tenant = 2 }, bad(2), 0},
		{"no Point: it is ahead of all others", 0, 3, func(a *api.Asked) { a.Point, a.Done = -1, -1 }, bad0, 0},
		{"a Point behind all others", 0, 0, func(a *api.Asked) { a.Point, a.Done = 50, 60 }, bad0, 0},
		{"a Point that may be as well", 1, 1, func(a *api.Asked) { a.Point, a.Done = 50, 60 }, fine, 1},
		{"a Status that the Answer has not", 1, 1, func(a *api.Asked) { a.Status = 500 }, fine, 1},
	} {
		long().wants(t, x.what, x.should, x.worlds, func(y *api.Told) { x.turn(&y.Terms[x.term].Asked[x.nth]) })
	}
}

func TestSeveralWrong(t *testing.T) { // P29.2: the first term behind which no world may stand
	wrong := func(terms ...int) func(x *api.Told) {
		return func(x *api.Told) {
			for _, i := range terms {
				x.Terms[i].Asked[3].Answer.Status++
			}
		}
	}
	long().wants(t, "the last two", bad(1), 0, wrong(1, 2))
	long().wants(t, "all", bad0, 0, wrong(0, 1, 2))
	long().wants(t, "the first and the last one", bad0, 0, wrong(0, 2))
	long().wants(t, "behind one without an engine", bad(2), 0, func(x *api.Told) {
		wrong(1, 2)(x)
		x.Terms[1].Open = api.ErrIO
	})
}

func TestPlaces(t *testing.T) { // P29.2: in the order of their Points, whatever stands first in the record
	swap := func(i, j int) func(x *api.Told) {
		return func(x *api.Told) {
			l := x.Terms[0].Asked
			l[i].Point, l[j].Point = l[j].Point, l[i].Point
			l[i].Done, l[j].Done = -1, -1
		}
	}
	s := func() *story {
		return tell(2, 2).did(made("ada", 9), 1).did(counted(), 1).did(made("eve", 9), 1).did(of(1, made("ada", 9)), 1).did(read(1), 1)
	}
	s().wants(t, "as they are", fine, 1, asItIs)
	s().wants(t, "what was counted, and what came behind it", bad0, 0, swap(1, 2))
	s().wants(t, "both creates", bad0, 0, swap(0, 2))
	s().wants(t, "of two tenants", fine, 1, swap(2, 3))
	s().wants(t, "a read ahead of the create", bad0, 0, swap(0, 4))
	s().wants(t, "a read", fine, 1, swap(3, 4))
	s().wants(t, "the record stands the other way round", fine, 1, func(x *api.Told) {
		l := x.Terms[0].Asked
		slices.Reverse(l)
		for i := range l {
			l[i].Nth = i
		}
	})
	s().wants(t, "great Points", fine, 1, func(x *api.Told) {
		x.Terms[0].Steps = math.MaxInt
		for i := range x.Terms[0].Asked {
			x.Terms[0].Asked[i].Point += math.MaxInt - 20
			x.Terms[0].Asked[i].Done = -1
		}
	})
	two := tell(2).did(made("ada", 9), 1)
	two.next().did(made("eve", 9), 1)
	two.wants(t, "terms stand in theirs", fine, 1, func(x *api.Told) { x.Terms[0].Asked[0].Point, x.Terms[0].Asked[0].Done = 90, 91 })
	two.wants(t, "terms change theirs", bad0, 0, func(x *api.Told) { x.Terms[0], x.Terms[1] = x.Terms[1], x.Terms[0] })
}

func TestUnsure(t *testing.T) { // P29.2: done, not done, either; the model would not let it mutate
	tell(9).hidden(made("ada", 9), 1).wants(t, "it was done", fine, 2, asItIs)
	tell(9).lost(made("ada", 9), 1, api.FateUnsure).wants(t, "it was not", fine, 2, asItIs)
	tell(9).hidden(made("ada", 9), 1).did(counted(), 1).wants(t, "done, and told ahead of that", bad0, 0, asItIs) // it is behind all others
	tell(9).lost(made("ada", 9), 1, api.FateUnsure).did(counted(), 1).wants(t, "a read behind it", fine, 2, asItIs)
	tell(9).hidden(made("ada", 9), 1).next().did(counted(), 1).wants(t, "done, as the next term read", fine, 1, asItIs)
	tell(9).lost(made("ada", 9), 1, api.FateUnsure).next().did(counted(), 1).wants(t, "not done, as the next term read", fine, 1, asItIs)
	tell(9).hidden(made("ada", 9), 1).next().did(read(2), 1).wants(t, "a read that does not tell", fine, 2, asItIs)
	tell(9).hidden(made("ada", 9), 1).next().did(counted(), 1).wants(t, "a read that neither tells", bad(1), 0, func(x *api.Told) { x.Terms[1].Asked[0].Answer.Live = 2 })
	tell(0).lost(made("ada", 9), 1, api.FateUnsure).wants(t, "over the quota", fine, 1, asItIs)
	tell(9).lost(made("", 9), 1, api.FateUnsure).wants(t, "no name", fine, 1, asItIs)
	tell(9).lost(read(1), 1, api.FateUnsure).wants(t, "a read", fine, 1, asItIs)
	tell(9).did(made("ada", 9), 1).lost(read(1), 1, api.FateUnsure).wants(t, "a read that is told 200", fine, 1, asItIs)
	tell(9).lost(api.Call{Kind: api.CallRevokeAll}, 1, api.FateUnsure).wants(t, "nobody to revoke", fine, 1, asItIs)
	tell(9).lost(of(1, made("ada", 9)), 1, api.FateUnsure).wants(t, "of a tenant that is none", fine, 1, asItIs)
	tell(9).did(made("ada", 9), 1).hidden(api.Call{Kind: api.CallRevokeAll}, 1).wants(t, "all revoked", fine, 2, asItIs)
	tell(9).did(made("ada", 9), 1).hidden(touched(1, 90), 1).wants(t, "touched", fine, 2, asItIs)
	tell(9).did(made("ada", 9), 1).hidden(revoked(1), 9).wants(t, "revoked at its last tick", fine, 2, asItIs)
	tell(9).did(made("ada", 9), 1).lost(revoked(1), 10, api.FateUnsure).wants(t, "at its Tick it lives no more", fine, 1, asItIs)
}

func TestUnsureIsLast(t *testing.T) { // P29.2: behind all others, whatever its Point and its Answer
	s := tell(1).lost(made("ada", 9), 1, api.FateUnsure).did(made("eve", 9), 1)
	s.wants(t, "the other one has the quota", fine, 1, asItIs)
	s = tell(2).lost(made("ada", 9), 1, api.FateUnsure).did(made("eve", 9), 1)
	s.wants(t, "there is room for both", fine, 2, asItIs)
	s.w.Do(made("ada", 9), 1)
	s.wants(t, "both", fine, 2, asItIs)
	s = tell(2).lost(made("ada", 9), 1, api.FateUnsure).did(made("eve", 9), 1)
	for what, a := range map[string]api.Answer{"nothing": {}, "that of both": {Status: 201, Token: token(1, 0), Expires: 10}, "any": {Status: 404, Word: "x", Live: 5}} {
		s.wants(t, "it is told "+what, fine, 2, func(x *api.Told) { x.Terms[0].Asked[0].Answer, x.Terms[0].Asked[0].Status = a, a.Status })
	}
	s.wants(t, "without a Point", fine, 2, func(x *api.Told) { x.Terms[0].Asked[0].Point, x.Terms[0].Asked[0].Done = -1, -1 })
	s.wants(t, "without a call", fine, 1, func(x *api.Told) { x.Terms[0].Asked[0].IsCall = false })
	s.wants(t, "another Tick", fine, 2, func(x *api.Told) { x.Terms[0].Asked[0].Tick = 0 })
	s.w.Do(made("ada", 9), 1)
	s.wants(t, "another Tick than it has in the end", bad(1), 2, func(x *api.Told) { x.Terms[0].Asked[0].Tick = 0 })
}

func TestUnsureInEach(t *testing.T) { // P29.2: one each in several terms, and how many worlds these are
	s := tell(99)
	for n := 1; n <= 8; n++ {
		s.hidden(made("ada", 99), uint64(n)) // at its own tick, so that no two of them make the same
		s.wants(t, "all were done", fine, 1<<n, asItIs)
		s.wants(t, "all but the last one", fine, 1<<n, func(x *api.Told) {
			k := &x.End[0]
			k.Entries, k.Sessions = k.Entries[:n-1], k.Sessions[:n-1]
		})
		s.wants(t, "the first one's entry missing", bad(n), 1<<n, func(x *api.Told) { x.End[0].Entries = x.End[0].Entries[1:] })
		s.next()
	}
	s.did(counted(), 9)
	s.wants(t, "behind all of them one reads", fine, 1, asItIs)
	s = tell(1)
	for n := range 5 {
		s.lost(made("ada", 99), uint64(n), api.FateUnsure).next()
	}
	s.wants(t, "one of them at most, but which", fine, 6, asItIs)
	s.did(made("eve", 99), 9).wants(t, "none of them", fine, 1, asItIs)
	s = tell(9).hidden(made("ada", 99), 1).next().lost(made("eve", 99), 1, api.FateUnsure).next().did(made("bob", 9), 2)
	s.wants(t, "one of both", fine, 2, asItIs) // its token tells that one was done
	s.next().did(read(1), 2).wants(t, "which one", fine, 1, asItIs)
}

func TestUnlikeWorlds(t *testing.T) { // P29.2: by sessions, whether they live or not, numbers, entries
	either := func(a, b api.Call, between uint64) *story { // neither, one, the other one, both
		s := tell(9).lost(a, 1, api.FateUnsure).next().lost(b, 1, api.FateUnsure).next()
		s.term().Clock = between
		return s
	}
	either(made("ada", 9), made("ada", 9), 1).wants(t, "in nothing", fine, 3, asItIs)
	either(made("ada", 9), made("eve", 9), 1).wants(t, "in the user", fine, 4, asItIs)
	either(made("ada", 9), made("eve", 9), 99).wants(t, "in the user of one that lives no more", fine, 4, asItIs)
	either(made("ada", 9), made("ada", 8), 99).wants(t, "in the end of one that lives no more", fine, 4, asItIs)
	more := made("ada", 9)
	more.Data = "xx"
	either(made("ada", 9), more, 99).wants(t, "in the data of one that lives no more", fine, 4, asItIs)
	more = made("ada", 9)
	more.Draw = 1
	either(made("ada", 9), more, 99).wants(t, "in the token of one that lives no more", fine, 4, asItIs)
	one := made("a", 9)
	one.Data = `b"c`
	two := made(`a"b`, 9)
	two.Data = "c"
	either(one, two, 99).wants(t, "in where a text ends", fine, 4, asItIs)
	s := tell(9).lost(made("ada", 1), 0, api.FateUnsure).next().lost(made("eve", 1), 0, api.FateUnsure)
	s.wants(t, "in the user of one that lives at the tick 0 alone", fine, 4, asItIs)
	s = tell(9).lost(made("ada", 1), 1, api.FateUnsure)
	s.term().Clock = 50
	s.wants(t, "in one that lives no more, its entry and the next number", fine, 2, asItIs)
	s = tell(9).did(made("ada", 9), 1).lost(revoked(1), 1, api.FateUnsure).next().lost(touched(1, 9), 1, api.FateUnsure)
	s.wants(t, "in what entries there are: revoked, touched, neither", fine, 3, asItIs)
	s = tell(9).did(made("ada", 9), 1).hidden(revoked(1), 1).next().lost(revoked(1), 1, api.FateUnsure)
	s.wants(t, "revoked by one of both", fine, 2, asItIs)
	s = tell(9, 9).lost(made("ada", 9), 1, api.FateUnsure).next().lost(of(1, made("ada", 9)), 1, api.FateUnsure)
	s.wants(t, "in whose it is", fine, 4, asItIs)
	s = tell(9, 9).did(made("ada", 9), 1).did(of(1, made("ada", 9)), 1).lost(touched(1, 9), 1, api.FateUnsure)
	s.next().lost(of(1, touched(1, 9)), 1, api.FateUnsure)
	s.wants(t, "in whose entry it is", fine, 4, asItIs)
}

func TestNoEngine(t *testing.T) { // P29.2: a term whose Open is refused leaves the worlds as they were
	s := tell(9).did(made("ada", 9), 1).hidden(made("eve", 9), 1).next()
	s.terms[1].Open = api.ErrIO
	s.next().did(read(2), 1)
	s.wants(t, "between others", fine, 1, asItIs)
	s.wants(t, "with what can't be", fine, 1, func(x *api.Told) {
		x.Terms[1].Asked = slices.Clone(x.Terms[0].Asked)
		x.Terms[1].Asked[0].Tick = 7
	})
	s.wants(t, "with two unsure ones", fine, 1, func(x *api.Told) {
		x.Terms[1].Asked = []api.Asked{x.Terms[0].Asked[1], x.Terms[0].Asked[1]}
	})
	s.wants(t, "opened", bad(1), 0, func(x *api.Told) { x.Terms[1].Open, x.Terms[1].Asked = api.OK, x.Terms[0].Asked[:1] })
	first := tell(9).next().did(counted(), 4)
	first.terms[0].Open = api.ErrFull
	first.wants(t, "the first one", fine, 1, asItIs)
	last := tell(9).did(made("ada", 9), 4).next()
	last.terms[1].Open, last.terms[1].Clock = api.ErrDamaged, 12
	last.wants(t, "the last one", fine, 1, asItIs)
	last.wants(t, "the last one's Clock", bad(2), 1, func(x *api.Told) { x.Terms[1].Clock = 13 })
	last.wants(t, "the last one's Clock, not the one ahead", fine, 1, func(x *api.Told) { x.Terms[0].Clock = 99 })
	alone := tell(9)
	alone.terms[0].Open = api.ErrDamaged
	alone.wants(t, "alone", fine, 1, asItIs)
}

func TestEnd(t *testing.T) { // P29.2: what lives at the last Clock, and the entries
	s := func() *story {
		s := tell(9, 9).did(made("ada", 50), 1).did(made("eve", 3), 1).did(of(1, made("ada", 50)), 2).next()
		s.term().Clock = 20
		return s
	}
	s().wants(t, "as it is", fine, 1, asItIs)
	for what, turn := range map[string]func(x *api.Told){
		"a session too many":             func(x *api.Told) { k := &x.End[0]; k.Sessions = append(k.Sessions, k.Sessions[0]) },
		"one that lives at the Clock":    func(x *api.Told) { x.Terms[1].Clock = 3 },
		"one that lives no more there":   func(x *api.Told) { x.Terms[1].Clock = 51 },
		"a session too few":              func(x *api.Told) { x.End[0].Sessions = nil },
		"of the second tenant":           func(x *api.Told) { x.End[1].Sessions = nil },
		"another user":                   func(x *api.Told) { x.End[0].Sessions[0].User = "eve" },
		"another token":                  func(x *api.Told) { x.End[0].Sessions[0].Token = token(2, 0) },
		"other data":                     func(x *api.Told) { x.End[0].Sessions[0].Data = "" },
		"another end":                    func(x *api.Told) { x.End[0].Sessions[0].Expires++ },
		"no entries":                     func(x *api.Told) { x.End[0].Entries = nil },
		"an entry too few":               func(x *api.Told) { x.End[0].Entries = x.End[0].Entries[:1] },
		"an entry too many":              func(x *api.Told) { x.End[1].Entries = append(x.End[1].Entries, x.End[0].Entries[1]) },
		"an entry's number":              func(x *api.Told) { x.End[0].Entries[1].Number++ },
		"an entry's kind":                func(x *api.Told) { x.End[0].Entries[0].Kind++ },
		"an entry's tick":                func(x *api.Told) { x.End[1].Entries[0].Tick-- },
		"an entry's subject":             func(x *api.Told) { x.End[0].Entries[0].Subject += " " },
		"entries the other way round":    func(x *api.Told) { slices.Reverse(x.End[0].Entries) },
		"one tenant's for the other's":   func(x *api.Told) { slices.Reverse(x.End) },
		"one tenant's twice":             func(x *api.Told) { x.End[1] = x.End[0] },
		"one tenant's entries":           func(x *api.Told) { x.End[1].Entries = x.End[0].Entries },
		"none of the second tenant's":    func(x *api.Told) { x.End = x.End[:1] },
		"none":                           func(x *api.Told) { x.End = nil },
		"one of a tenant that is none":   func(x *api.Told) { x.End = append(x.End, api.Kept{}) },
		"one ahead of all, that is none": func(x *api.Told) { x.End = append([]api.Kept{{}}, x.End...) },
	} {
		s().wants(t, what, bad(2), 1, turn)
	}
	u := tell(9).hidden(made("ada", 9), 1)
	u.wants(t, "neither of two worlds'", bad(1), 2, func(x *api.Told) { x.End[0].Sessions = nil }) // the sessions of one, the entries of the other
	u.wants(t, "the other world's", fine, 2, func(x *api.Told) { x.End[0] = api.Kept{} })
}

func TestNoTerms(t *testing.T) { // P29.2: 0 terms: the End is that of a world in which nobody has a session
	for _, x := range []struct {
		what   string
		c      api.Config
		end    []api.Kept
		should found
		worlds int
	}{
		{"one tenant", config(9), make([]api.Kept, 1), fine, 1},
		{"three tenants", config(9, 9, 9), make([]api.Kept, 3), fine, 1},
		{"no End", config(9), nil, bad0, 1},
		{"an End too few", config(9, 9), make([]api.Kept, 1), bad0, 1},
		{"an End too many", config(9), make([]api.Kept, 2), bad0, 1},
		{"an End that is not empty", config(9), []api.Kept{{Sessions: make([]api.Session, 1)}}, bad0, 1},
		{"an End with an entry", config(9), []api.Kept{{Entries: make([]api.Entry, 1)}}, bad0, 1},
		{"lists that are empty", config(9), []api.Kept{{Sessions: []api.Session{}, Entries: []api.Entry{}}}, fine, 1},
		{"no tenants", config(), nil, bad0, 0},
	} {
		got := look(t, x.what, x.c, nil, api.Told{End: x.end})
		want(t, x.what, got.explain, x.should)
		want(t, x.what+": Worlds", got.worlds, x.worlds)
	}
}

func TestNoTenants(t *testing.T) { // P29.2, P29.3: false and 0 of tenants that may not be; what Order tells is ahead of that
	for what, l := range map[string][]api.Tenant{
		"none":           nil,
		"one that isn't": {{Name: "A", Key: "k"}},
		"one twice":      {{Name: "a", Key: "k"}, {Name: "a", Key: "l"}},
		"without a key":  {{Name: "a"}},
		"a quota":        {{Name: "a", Key: "k", Quota: -1}},
		"too many":       make([]api.Tenant, 17),
	} {
		c := config(9)
		c.Tenants = l
		x := api.Told{Terms: []api.Served{ordered(), ordered()}, End: make([]api.Kept, len(l))}
		got := look(t, what, c, make([]api.Term, 2), x)
		want(t, what, got, looked{order: fine, explain: bad0, sent: bad0, worlds: 0})
		x.Terms[1].Lines = nil
		got = look(t, what+", not in order", c, make([]api.Term, 2), x)
		want(t, what+", not in order", got, looked{order: bad(1), explain: bad(1), sent: bad(1), worlds: 0})
	}
}

func TestPassedOver(t *testing.T) { // P29.2: FateNone, FateOpen, what is no call
	for fate, should := range map[int]found{api.FateOpen: fine, api.FateNone: fine, api.FateDone: bad0, -1: fine, 4: fine} {
		s := tell(9).did(made("ada", 9), 1).lost(made("eve", 9), 1, fate).did(counted(), 1)
		s.wants(t, "a fate", should, boolInt(should.is), asItIs)
		s.wants(t, "a fate, no call", fine, 1, func(x *api.Told) { x.Terms[0].Asked[1].IsCall = false })
	}
	s := tell(9).did(made("ada", 9), 1)
	s.wants(t, "what was done is no call", bad(1), 1, func(x *api.Told) { x.Terms[0].Asked[0].IsCall = false })
}

func TestWorldsOutOfOrder(t *testing.T) { // P29.2: in order or not; 0, if there are several unsure ones in a term with an engine
	turns := map[string]func(x *api.Told){
		"no lines":   func(x *api.Told) { x.Terms[0].Lines = nil },
		"numbers":    func(x *api.Told) { x.Terms[0].Asked[0].Nth = 7 },
		"one Point":  func(x *api.Told) { x.Terms[0].Asked[0].Point = x.Terms[0].Asked[1].Point },
		"First":      func(x *api.Told) { x.Terms[0].Asked[0].First = 70 },
		"Done":       func(x *api.Told) { x.Terms[0].Asked[0].Done = 700 },
		"no Steps":   func(x *api.Told) { x.Terms[0].Steps = 0 },
		"all Points": func(x *api.Told) { x.Terms[0].Asked[0].Point, x.Terms[0].Asked[1].Point = -9, -9 },
	}
	for what, turn := range turns {
		s := tell(9).did(made("ada", 9), 1).lost(read(1), 1, api.FateOpen).lost(made("eve", 9), 1, api.FateUnsure)
		got := s.look(t, what, turn)
		want(t, what, got, looked{order: bad0, explain: bad0, sent: bad0, worlds: 2})
	}
	s := tell(9).did(made("ada", 9), 1).did(touched(1, 50), 2)
	want(t, "of one Point the first one in the record comes first", s.look(t, "one Point", turns["one Point"]).worlds, 1)
	two := tell(9).lost(made("ada", 9), 1, api.FateUnsure).lost(made("eve", 9), 1, api.FateUnsure)
	want(t, "two", two.look(t, "two", asItIs), looked{order: bad0, explain: bad0, sent: bad0, worlds: 0})
	want(t, "two, one without a call", two.look(t, "two", func(x *api.Told) { x.Terms[0].Asked[0].IsCall = false }).worlds, 0)
	want(t, "two that are reads", tell(9).lost(read(1), 1, api.FateUnsure).lost(read(1), 1, api.FateUnsure).look(t, "two", asItIs).worlds, 0)
	got := two.look(t, "two without an engine", func(x *api.Told) { x.Terms[0].Open = api.ErrIO })
	want(t, "two without an engine", []any{got.order, got.explain, got.worlds}, []any{fine, fine, 1})
	two.next()
	want(t, "two in the first of two", two.look(t, "two", asItIs), looked{order: bad0, explain: bad0, sent: bad0, worlds: 0})
	later := tell(9).next().lost(made("ada", 9), 1, api.FateUnsure).lost(made("eve", 9), 1, api.FateUnsure)
	want(t, "two in the last of two", later.look(t, "two", asItIs), looked{order: bad(1), explain: bad(1), sent: bad(1), worlds: 0})
}

func TestWorldsOfTheRecord(t *testing.T) { // P29.2: Worlds asks for no terms but the record's
	s := tell(9).hidden(made("ada", 9), 1)
	got := look(t, "a term too few", s.c, nil, s.told())
	want(t, "a term too few", got, looked{order: bad0, explain: bad0, sent: bad0, worlds: 2})
}

func TestGreatTicks(t *testing.T) { // P29.2: where the clock stands above all ends
	s := tell(9).did(made("ada", 9), math.MaxUint64)
	s.wants(t, "the greatest tick", fine, 1, asItIs)
	s = tell(9).did(made("ada", 1<<31-1), 0).did(read(1), 1<<31-2).did(read(1), 1<<31-1)
	s.wants(t, "its last tick, and the one behind it", fine, 1, asItIs)
	s = tell(9).did(made("ada", 9), 50).did(read(1), 40)
	s.wants(t, "ticks that fall", fine, 1, asItIs)
}

func TestExample(t *testing.T) { // the chapter's example, and the model's words of it
	s := tell(1).did(made("ada", 9), 0).did(made("ada", 9), 0)
	want(t, "the second one", s.terms[0].Asked[1].Answer, api.Answer{Status: 429, Word: "quota"})
	s.wants(t, "one of both", fine, 1, asItIs)
	s.wants(t, "both", bad0, 0, func(x *api.Told) {
		x.Terms[0].Asked[1].Answer = api.Answer{Status: 201, Token: token(2, 0), Expires: 9}
	})
	s.wants(t, "both, the same token", bad0, 0, func(x *api.Told) { x.Terms[0].Asked[1].Answer = x.Terms[0].Asked[0].Answer })
	if !model.Mutates(s.terms[0].Asked[0].Call, s.terms[0].Asked[0].Answer) {
		t.Error("a create that is no mutation")
	}
}
