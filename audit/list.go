package audit

import (
	"math"

	"atrium/api"
	"atrium/mac"
	"atrium/record"
	"atrium/txn"
)

// row is an entry as it lies in the engine: the Number of its key, and what its text says.
type row struct {
	number int
	entry  api.Entry
}

// List is a tenant's entries from a Number on, most at most.
func List(x *txn.Txn, tenant string, from, most int) ([]api.Entry, api.Errno) {
	rows, e := rowsOf(x, tenant, from, most)
	return entriesOf(rows), e
}

// Check tells whether a tenant's list is what its ledger says.
func Check(x *txn.Txn, tenant string) api.Errno {
	rows, e := rowsOf(x, tenant, 1, math.MaxInt)
	if e != api.OK {
		return e
	}
	l, e := Ledger(x, tenant)
	if e != api.OK {
		return e
	}
	for _, r := range rows {
		if r.number != r.entry.Number {
			return api.ErrAudit
		}
	}
	if l.Entries != uint64(len(rows)) || !Verify(entriesOf(rows), l.Head) {
		return api.ErrAudit
	}
	return api.OK
}

// Verify tells whether a head is the chain of entries that are numbered from 1 on. One that has no text has no chain.
func Verify(l []api.Entry, head string) bool {
	chain := record.Empty().Head
	for i, entry := range l {
		text, e := record.EncodeEntry(entry)
		if e != api.OK || entry.Number != i+1 {
			return false
		}
		chain = mac.Chain(chain, text)
	}
	return chain == head
}

// rowsOf is a tenant's rows from a Number on, most at most.
func rowsOf(x *txn.Txn, tenant string, from, most int) ([]row, api.Errno) {
	if x == nil {
		return nil, api.ErrClosed
	}
	first, end, e := record.Audits(tenant, from)
	if e != api.OK {
		return nil, e
	}
	var l []api.Pair
	for key, value := range x.Scan(first, end) {
		if len(l) >= most {
			break
		}
		l = append(l, api.Pair{Key: key, Value: value})
	}
	return read(l)
}

// read is the rows of pairs: all keys are asked ahead of the first value, as their fault is told first.
func read(l []api.Pair) ([]row, api.Errno) {
	var rows []row
	for _, p := range l {
		at, e := record.Where(p.Key)
		if e != api.OK {
			return nil, e
		}
		rows = append(rows, row{number: at.Number})
	}
	for i, p := range l {
		entry, e := record.DecodeEntry(p.Value)
		if e != api.OK {
			return nil, e
		}
		rows[i].entry = entry
	}
	return rows, api.OK
}

func entriesOf(rows []row) []api.Entry {
	var l []api.Entry
	for _, r := range rows {
		l = append(l, r.entry)
	}
	return l
}
