package txn

import (
	"atrium/api"
	"atrium/lsm"
)

// Commit lets its writes be there, if nobody wrote the same meanwhile.
func (t *Txn) Commit() (uint64, api.Errno) {
	seqs, errs := CommitAll([]*Txn{t})
	return seqs[0], errs[0]
}

// CommitAll commits several, with one sync.
func CommitAll(l []*Txn) ([]uint64, []api.Errno) {
	seqs, errs := make([]uint64, len(l)), make([]api.Errno, len(l))
	if len(l) > api.MaxGroup {
		for i := range errs {
			errs[i] = api.ErrLong
		}
		return seqs, errs
	}
	g := group{db: engine(l), keys: map[string]struct{}{}}
	for i, t := range l {
		errs[i] = g.finish(t)
		if errs[i] != api.OK {
			continue
		}
		if len(t.writes) == 0 {
			seqs[i] = t.snap
			continue
		}
		g.add(i, t)
	}
	told, e := g.db.WriteAll(g.batches)
	for n, i := range g.places {
		errs[i] = e
		if e == api.OK {
			seqs[i] = told[n]
		}
	}
	return seqs, errs
}

// group is what several transactions write at once.
type group struct {
	db      *lsm.DB
	batches [][]api.Write
	places  []int // of each batch: whose it is
	keys    map[string]struct{}
}

// engine is the one of the first transaction.
func engine(l []*Txn) *lsm.DB {
	for _, t := range l {
		if !t.closed() {
			return t.db
		}
	}
	return nil
}

// finish ends a transaction; or it tells why that can't be committed.
func (g *group) finish(t *Txn) api.Errno {
	switch {
	case t.closed():
		return api.ErrClosed
	case t.ended:
		return api.ErrDone
	case t.db != g.db:
		return api.ErrArg
	}
	t.end()
	if g.conflicts(t) {
		return api.ErrConflict
	}
	return api.OK
}

// conflicts tells whether somebody committed a write of one of its keys meanwhile. Those of the group come first, and get sequences above all snapshots.
func (g *group) conflicts(t *Txn) bool {
	for key := range t.writes {
		if _, is := g.keys[key]; is || g.db.Newest(key) > t.snap {
			return true
		}
	}
	return false
}

// add puts a transaction's writes behind those of the others.
func (g *group) add(place int, t *Txn) {
	g.places = append(g.places, place)
	g.batches = append(g.batches, t.Writes())
	for key := range t.writes {
		g.keys[key] = struct{}{}
	}
}
