package svc

import (
	"math"

	"atrium/api"
	"atrium/cred"
	"atrium/mac"
	"atrium/text"
)

// deed is what a call does: what it is told; which sessions go, and which come (one that changes does both); what its entry tells of.
type deed struct {
	answer  api.Answer
	gone    []api.Session
	come    []api.Session
	subject string
}

// rule is what calls of a kind do: whether what they say may be, whatever the tenant has; and, if so, their deed.
type rule struct {
	may func(c api.Call) bool
	do  func(v *view, c api.Call) deed
}

// rules is what calls do, by their kinds.
func rules() map[int]rule {
	return map[int]rule{
		api.CallCreate:     {mayCreate, (*view).create},
		api.CallGet:        {mayAnyway, (*view).get},
		api.CallTouch:      {hasTTL, (*view).touch},
		api.CallRevoke:     {mayAnyway, (*view).revoke},
		api.CallRevokeUser: {hasName, (*view).revokeUser},
		api.CallRevokeAll:  {mayAnyway, (*view).revokeAll},
		api.CallList:       {hasName, (*view).list},
		api.CallAudit:      {hasFrom, (*view).audit},
		api.CallStats:      {mayAnyway, (*view).stats},
	}
}

func mayAnyway(api.Call) bool {
	return true
}

func mayCreate(c api.Call) bool {
	return hasName(c) && len(c.Data) <= api.MaxData && text.Valid(c.Data) && hasTTL(c)
}

func hasTTL(c api.Call) bool {
	return c.TTL >= 1 && c.TTL <= api.MaxTTL
}

func hasName(c api.Call) bool {
	return text.Name(c.User)
}

func hasFrom(c api.Call) bool {
	return c.From >= 1
}

// refused is what a call is told that does nothing.
func refused(status int, word string) api.Answer {
	return api.Answer{Status: status, Word: word}
}

func bad() api.Answer {
	return refused(400, "bad")
}

func missing() deed {
	return deed{answer: refused(404, "missing")}
}

// do is a call's deed.
func (v *view) do(c api.Call) deed {
	r, is := rules()[c.Kind]
	if !is || !r.may(c) {
		return deed{answer: bad()}
	}
	return r.do(v, c)
}

// expiry is the tick up to which what is asked for now lives. A tick above the latest one counts as that, so that no sum wraps.
func (v *view) expiry(ttl int) uint64 {
	return min(min(v.now, math.MaxInt64)+uint64(ttl), math.MaxInt64)
}

func (v *view) create(c api.Call) deed {
	if len(v.sessions.living(v.now)) >= v.quota {
		return deed{answer: refused(429, "quota")}
	}
	s := api.Session{Token: cred.Token(v.ledger.Next, c.Draw), User: c.User, Data: c.Data, Expires: v.expiry(c.TTL)}
	did := deed{answer: api.Answer{Status: 201, Token: s.Token, Expires: s.Expires}, come: []api.Session{s}, subject: s.Token}
	if old, is := v.sessions[s.Token]; is {
		did.gone = []api.Session{old}
	}
	return did
}

func (v *view) get(c api.Call) deed {
	s, is := v.sessions.find(c.Token, v.now)
	if !is {
		return missing()
	}
	return deed{answer: api.Answer{Status: 200, User: s.User, Data: s.Data, Expires: s.Expires}}
}

func (v *view) touch(c api.Call) deed {
	old, is := v.sessions.find(c.Token, v.now)
	if !is {
		return missing()
	}
	s := old
	s.Expires = v.expiry(c.TTL)
	return deed{answer: api.Answer{Status: 200, Expires: s.Expires}, gone: []api.Session{old}, come: []api.Session{s}, subject: s.Token}
}

func (v *view) revoke(c api.Call) deed {
	s, is := v.sessions.find(c.Token, v.now)
	if !is {
		return missing()
	}
	return deed{answer: api.Answer{Status: 204}, gone: []api.Session{s}, subject: s.Token}
}

func (v *view) revokeUser(c api.Call) deed {
	return revokeFirst(v.sessions.livingOf(c.User, v.now), c.User)
}

func (v *view) revokeAll(api.Call) deed {
	return revokeFirst(v.sessions.living(v.now), "")
}

// revokeFirst lets the first of some sessions be gone, as many as one call may revoke.
func revokeFirst(l []api.Session, subject string) deed {
	l = l[:min(len(l), api.MaxRevoke)]
	return deed{answer: api.Answer{Status: 200, Revoked: len(l)}, gone: l, subject: subject}
}

func (v *view) list(c api.Call) deed {
	a := api.Answer{Status: 200}
	l := v.sessions.livingOf(c.User, v.now)
	for _, s := range l[:min(len(l), api.MaxTokens)] {
		a.Tokens = append(a.Tokens, s.Token)
	}
	return deed{answer: a}
}

func (v *view) audit(c api.Call) deed {
	a := api.Answer{Status: 200, Head: mac.Hex(v.ledger.Head)}
	for _, x := range v.entries {
		if x.Number >= c.From && len(a.Entries) < api.MaxEntries {
			a.Entries = append(a.Entries, x)
		}
	}
	return deed{answer: a}
}

func (v *view) stats(api.Call) deed {
	l := v.sessions.living(v.now)
	of := map[string]int{}
	for _, s := range l {
		of[s.User]++
	}
	return deed{answer: api.Answer{Status: 200, Live: len(l), Users: len(of), Total: number(v.ledger.Entries), Next: number(v.ledger.Next)}}
}

// number is a number as an int; one that is too great for that as the greatest.
func number(n uint64) int {
	return int(min(n, math.MaxInt64))
}
