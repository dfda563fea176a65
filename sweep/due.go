package sweep

import (
	"iter"

	"atrium/api"
	"atrium/record"
	"atrium/txn"
)

// due goes over a tenant's records by expiry that can be swept, the first one first. A key that layer 22 refuses is none's, though it may lie among them.
func due(x *txn.Txn, tenant string, now uint64) iter.Seq[api.Place] {
	return func(yield func(api.Place) bool) {
		from, to, e := record.Expired(tenant, now)
		if e != api.OK {
			return
		}
		for key := range x.Scan(from, to) {
			if p, e := record.Where(key); e == api.OK && !yield(p) {
				return
			}
		}
	}
}

// next is the first one of the first tenant that has any.
func next(x *txn.Txn, tenants []string, now uint64) (api.Place, bool) {
	for _, tenant := range tenants {
		for p := range due(x, tenant, now) {
			return p, true
		}
	}
	return api.Place{}, false
}

// takeOut deletes, in x, a record by expiry, and the session of which it tells, if that is there and expires then.
func takeOut(x *txn.Txn, p api.Place) api.Errno {
	byExpiry, e := record.ExpiryKey(p.Tenant, p.Expires, p.Token)
	if e != api.OK {
		return e
	}
	own, e := record.SessionKey(p.Tenant, p.Token)
	if e != api.OK {
		return e
	}
	keys := []string{byExpiry}
	if s, is := sessionAt(x, own, p.Token); is && s.Expires == p.Expires {
		byUser, e := record.UserKey(p.Tenant, s.User, s.Token)
		if e != api.OK {
			return e
		}
		keys = append(keys, own, byUser)
	}
	for _, key := range keys {
		if e := x.Delete(key); e != api.OK {
			return e
		}
	}
	return api.OK
}

// sessionAt is the session that lies under a key; false of a value that is no session's. Where nothing lies the value is empty, and that is none's, too.
func sessionAt(x *txn.Txn, key, token string) (api.Session, bool) {
	value, _ := x.Get(key)
	s, e := record.DecodeSession(token, value)
	return s, e == api.OK
}
