package svc

import (
	"atrium/api"
	"atrium/audit"
	"atrium/record"
	"atrium/txn"
)

// write writes a deed in x. What goes is written first: of one that changes the records that it has behind it are those that count.
func (did deed) write(x *txn.Txn, tenant string, kind int, now uint64) api.Errno {
	for _, s := range did.gone {
		if e := takeOut(x, tenant, s); e != api.OK {
			return e
		}
	}
	for _, s := range did.come {
		if e := putIn(x, tenant, s); e != api.OK {
			return e
		}
	}
	if kind == api.CallCreate {
		if e := countOn(x, tenant); e != api.OK {
			return e
		}
	}
	_, e := audit.Append(x, tenant, kind, now, did.subject)
	return e
}

// takeOut deletes a session's records.
func takeOut(x *txn.Txn, tenant string, s api.Session) api.Errno {
	return eachRecord(tenant, s, func(key, _ string) api.Errno { return x.Delete(key) })
}

// putIn puts a session's records.
func putIn(x *txn.Txn, tenant string, s api.Session) api.Errno {
	return eachRecord(tenant, s, x.Put)
}

// eachRecord does the same to each of a session's records: its own, by user, by expiry.
func eachRecord(tenant string, s api.Session, do func(key, value string) api.Errno) api.Errno {
	value, e := record.EncodeSession(s)
	if e != api.OK {
		return e
	}
	own, e := record.SessionKey(tenant, s.Token)
	if e != api.OK {
		return e
	}
	byUser, e := record.UserKey(tenant, s.User, s.Token)
	if e != api.OK {
		return e
	}
	byExpiry, e := record.ExpiryKey(tenant, s.Expires, s.Token)
	if e != api.OK {
		return e
	}
	for _, p := range []api.Pair{{Key: own, Value: value}, {Key: byUser}, {Key: byExpiry}} {
		if e := do(p.Key, p.Value); e != api.OK {
			return e
		}
	}
	return api.OK
}

// countOn lets the next session have the number behind this one's.
func countOn(x *txn.Txn, tenant string) api.Errno {
	l, e := audit.Ledger(x, tenant)
	if e != api.OK {
		return e
	}
	l.Next++
	return audit.Put(x, tenant, l)
}
