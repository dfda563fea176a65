package record

import (
	"maps"
	"slices"

	"atrium/api"
	"atrium/mac"
)

// row is a record: its pair, and what its key says.
type row struct {
	place api.Place
	pair  api.Pair
}

// book is a tenant's records by their kinds.
type book map[int][]row

// rowsOf is the records of pairs, without those whose keys are none.
func rowsOf(l []api.Pair) []row {
	var rows []row
	for _, p := range l {
		if at, e := Where(p.Key); e == api.OK {
			rows = append(rows, row{at, p})
		}
	}
	return rows
}

// Agree tells whether all records do.
func Agree(l []api.Pair) api.Errno {
	rows := rowsOf(l)
	if len(rows) < len(l) {
		return api.ErrPlace
	}
	if !allFit(rows) {
		return api.ErrRecord
	}
	if !rises(l) {
		return api.ErrIndex
	}
	for _, b := range booksOf(rows) {
		if !b.agrees() {
			return api.ErrIndex
		}
	}
	return api.OK
}

// allFit tells whether each value is one of its key.
func allFit(rows []row) bool {
	table := forms()
	for _, r := range rows {
		if !table[r.place.Kind].fits(r.place, r.pair.Value) {
			return false
		}
	}
	return true
}

// rises tells whether each key is above the one ahead, so that none is there twice.
func rises(l []api.Pair) bool {
	for i := 1; i < len(l); i++ {
		if l[i-1].Key >= l[i].Key {
			return false
		}
	}
	return true
}

// booksOf is the books of all tenants that have a record.
func booksOf(rows []row) map[string]book {
	books := map[string]book{}
	for _, r := range rows {
		if books[r.place.Tenant] == nil {
			books[r.place.Tenant] = book{}
		}
		books[r.place.Tenant][r.place.Kind] = append(books[r.place.Tenant][r.place.Kind], r)
	}
	return books
}

func (b book) agrees() bool {
	return b.indexes(api.PlaceUser, byUser) && b.indexes(api.PlaceExpiry, byExpiry) && b.chains()
}

// byUser is where a session's record by user stands.
func byUser(tenant string, s api.Session) api.Place {
	return api.Place{Kind: api.PlaceUser, Tenant: tenant, User: s.User, Token: s.Token}
}

// byExpiry is where a session's record by expiry stands.
func byExpiry(tenant string, s api.Session) api.Place {
	return api.Place{Kind: api.PlaceExpiry, Tenant: tenant, Expires: s.Expires, Token: s.Token}
}

// indexes tells whether the records of a kind are those of the sessions: as each session's is another one, it is enough that there are as many, and that each session has its own.
func (b book) indexes(kind int, of func(tenant string, s api.Session) api.Place) bool {
	at := map[api.Place]int{}
	for i, r := range b[kind] {
		at[r.place] = i
	}
	for _, r := range b[api.PlaceSession] {
		s, _ := DecodeSession(r.place.Token, r.pair.Value)
		if _, is := at[of(r.place.Tenant, s)]; !is {
			return false
		}
	}
	return len(b[kind]) == len(b[api.PlaceSession])
}

// chains tells whether the ledger says what the entries are. By rising keys these stand by their Numbers.
func (b book) chains() bool {
	head := Empty().Head
	for i, r := range b[api.PlaceAudit] {
		x, _ := DecodeEntry(r.pair.Value)
		if r.place.Number != i+1 || x.Number != i+1 {
			return false
		}
		head = mac.Chain(head, r.pair.Value)
	}
	l := b.ledger()
	return l.Entries == uint64(len(b[api.PlaceAudit])) && mac.Equal(l.Head, head)
}

// ledger is the tenant's, or the empty one.
func (b book) ledger() api.Ledger {
	for _, r := range b[api.PlaceLedger] { // there is one at most
		l, _ := DecodeLedger(r.pair.Value)
		return l
	}
	return Empty()
}

// Tenants is the tenants of some records.
func Tenants(l []api.Pair) []string {
	return slices.Sorted(maps.Keys(booksOf(rowsOf(l))))
}

// Split is records by tenants.
func Split(l []api.Pair) [][]api.Pair {
	own := map[string][]api.Pair{}
	for _, r := range rowsOf(l) {
		own[r.place.Tenant] = append(own[r.place.Tenant], r.pair)
	}
	var all [][]api.Pair
	for _, tenant := range slices.Sorted(maps.Keys(own)) {
		all = append(all, own[tenant])
	}
	return all
}
