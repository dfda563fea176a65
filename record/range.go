package record

import (
	"atrium/api"
	"atrium/codec"
)

// ahead is how many pieces all keys of a tenant's kind have in common: the Name and the letter.
const ahead = 2

// Sessions is where a tenant's sessions stand.
func Sessions(tenant string) (from, to string, e api.Errno) {
	return rangeOf(api.Place{Kind: api.PlaceSession, Tenant: tenant}, ahead)
}

// Users is where the records by one user stand.
func Users(tenant, user string) (from, to string, e api.Errno) {
	return rangeOf(api.Place{Kind: api.PlaceUser, Tenant: tenant, User: user}, ahead+1)
}

// Expired is where the records by expiry stand whose tick is at most one: from all of them on, up to that tick's.
func Expired(tenant string, until uint64) (from, to string, e api.Errno) {
	p := api.Place{Kind: api.PlaceExpiry, Tenant: tenant, Expires: until}
	from, _, e = rangeOf(p, ahead)
	_, to, _ = rangeOf(p, ahead+1)
	return from, to, e
}

// Audits is where audit entries stand from one on: from that one's on, up to all of them.
func Audits(tenant string, number int) (from, to string, e api.Errno) {
	p := api.Place{Kind: api.PlaceAudit, Tenant: tenant, Number: max(number, 1)}
	from, _, e = rangeOf(p, ahead+1)
	_, to, _ = rangeOf(p, ahead)
	return from, to, e
}

// rangeOf is where keys of a place's kind stand that begin with its first pieces.
func rangeOf(p api.Place, pieces int) (from, to string, e api.Errno) {
	parts, may := partsOf(p, forms()[p.Kind].all()[:pieces])
	if !may {
		return "", "", api.ErrPlace
	}
	return codec.Range(parts)
}
