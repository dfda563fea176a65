package svc

import (
	"maps"
	"math"
	"slices"

	"atrium/api"
	"atrium/audit"
	"atrium/record"
	"atrium/txn"
)

// book is sessions by their tokens. Those that live no more stay in it: they lie there until they are swept, and at an earlier tick they live.
type book map[string]api.Session

// view is what a transaction sees of a tenant, and the tick at which that is asked.
type view struct {
	quota    int
	now      uint64
	sessions book
	ledger   api.Ledger
	entries  []api.Entry
}

// look reads all that a transaction sees of a tenant.
func look(x *txn.Txn, t api.Tenant, now uint64) (*view, api.Errno) {
	sessions, e := sessionsOf(x, t.Name)
	if e != api.OK {
		return nil, e
	}
	ledger, e := audit.Ledger(x, t.Name)
	if e != api.OK {
		return nil, e
	}
	entries, e := audit.List(x, t.Name, 1, math.MaxInt)
	if e != api.OK {
		return nil, e
	}
	return &view{quota: t.Quota, now: now, sessions: sessions, ledger: ledger, entries: entries}, api.OK
}

// sessionsOf is a tenant's sessions. All keys are asked ahead of the first value, as their fault is told first.
func sessionsOf(x *txn.Txn, tenant string) (book, api.Errno) {
	from, to, e := record.Sessions(tenant)
	if e != api.OK {
		return nil, e
	}
	var tokens, values []string
	for key, value := range x.Scan(from, to) {
		at, e := record.Where(key)
		if e != api.OK {
			return nil, e
		}
		tokens = append(tokens, at.Token)
		values = append(values, value)
	}
	b := book{}
	for i, token := range tokens {
		s, e := record.DecodeSession(token, values[i])
		if e != api.OK {
			return nil, e
		}
		b[token] = s
	}
	return b, api.OK
}

func lives(s api.Session, now uint64) bool {
	return s.Expires > now
}

// find is the session of a token, if it lives.
func (b book) find(token string, now uint64) (api.Session, bool) {
	s, is := b[token]
	return s, is && lives(s, now)
}

// living is the sessions that live, by their tokens.
func (b book) living(now uint64) []api.Session {
	var l []api.Session
	for _, token := range slices.Sorted(maps.Keys(b)) {
		if lives(b[token], now) {
			l = append(l, b[token])
		}
	}
	return l
}

// livingOf is those of one user.
func (b book) livingOf(user string, now uint64) []api.Session {
	return slices.DeleteFunc(b.living(now), func(s api.Session) bool { return s.User != user })
}
