package txn_test

import (
	"fmt"
	"slices"
	"strconv"
	"testing"

	"atrium/api"
	"atrium/txn"
)

// wantAll is what CommitAll should tell: of each its sequence and its error.
func wantAll(t *testing.T, what string, l []*txn.Txn, seqs []uint64, errs []api.Errno) {
	t.Helper()
	was := slices.Clone(l)
	n, e := txn.CommitAll(l)
	wantList(t, what+": sequences", n, seqs)
	wantList(t, what, e, errs)
	wantList(t, what+": what was handed in", l, was)
}

func TestCommitAll(t *testing.T) { // P14.3
	d := fresh(t)
	write(t, d, "a=1")
	wantAll(t, "none", nil, nil, nil)
	a, b, c, none := begin(t, d, "a=2"), begin(t, d, "b=3", "c=3"), begin(t, d, "d-"), begin(t, d)
	ops := d.FS().Ops()
	wantAll(t, "several", []*txn.Txn{a, none, b, c}, []uint64{2, 1, 3, 4}, []api.Errno{0, 0, 0, 0})
	want(t, "one sync for all", d.FS().Ops().Syncs-ops.Syncs, 1)
	want(t, "what is there", there(d), "a=2 b=3 c=3")
	want(t, "all are released", d.Info().Oldest, 4)
	for i, x := range []*txn.Txn{a, b, c, none} {
		want(t, "Ended "+strconv.Itoa(i), x.Ended(), true)
	}
	wantAll(t, "again", []*txn.Txn{a, none, b}, []uint64{0, 0, 0}, []api.Errno{api.ErrDone, api.ErrDone, api.ErrDone})
	ops = d.FS().Ops()
	wantAll(t, "nothing to write", []*txn.Txn{begin(t, d), begin(t, d)}, []uint64{4, 4}, []api.Errno{0, 0})
	want(t, "no operation", d.FS().Ops(), ops)
	wantAll(t, "one", []*txn.Txn{begin(t, d, "z=1")}, []uint64{5}, []api.Errno{0})
	ended := begin(t, d, "q=1")
	ended.Abort()
	x := begin(t, d, "y=1")
	wantAll(t, "nil ones, ended ones, one twice", []*txn.Txn{nil, ended, x, nil, x, {}}, []uint64{0, 0, 6, 0, 0, 0},
		[]api.Errno{api.ErrClosed, api.ErrDone, 0, api.ErrClosed, api.ErrDone, api.ErrClosed})
	wantAll(t, "nil ones alone", []*txn.Txn{nil, nil}, []uint64{0, 0}, []api.Errno{api.ErrClosed, api.ErrClosed})
	none = begin(t, d)
	wantAll(t, "one without writes twice", []*txn.Txn{none, none}, []uint64{6, 0}, []api.Errno{0, api.ErrDone})
}

func TestCommitAllConflicts(t *testing.T) { // P14.3, P14.6
	d := fresh(t)
	write(t, d, "a=1")
	early := begin(t, d, "a=x", "p=x")
	write(t, d, "a=2")
	first, second, third := begin(t, d, "k=1", "l=1"), begin(t, d, "l=2", "m=2"), begin(t, d, "m=3")
	same, fourth := begin(t, d, "k-"), begin(t, d, "p=4")
	wantAll(t, "conflicts", []*txn.Txn{early, first, second, third, same, fourth}, []uint64{0, 3, 0, 4, 0, 5},
		[]api.Errno{api.ErrConflict, 0, api.ErrConflict, 0, api.ErrConflict, 0})
	want(t, "what is there", there(d), "a=2 k=1 l=1 m=3 p=4")
	want(t, "all are released", d.Info().Oldest, 5)
	want(t, "those in conflict have ended", early.Ended() && second.Ended() && same.Ended(), true)
	x := begin(t, d, "a=3")
	write(t, d, "a=4")
	ops := d.FS().Ops()
	wantAll(t, "a conflict alone", []*txn.Txn{x}, []uint64{0}, []api.Errno{api.ErrConflict})
	want(t, "no operation", d.FS().Ops(), ops)
}

func TestCommitAllMany(t *testing.T) { // P14.3: 64, and one more
	d := fresh(t)
	make := func(n int) []*txn.Txn {
		var l []*txn.Txn
		for i := range n {
			l = append(l, begin(t, d, fmt.Sprintf("k%d=%d", i, n)))
		}
		return l
	}
	l := make(65)
	l[3], l[64] = nil, l[0]
	seqs, errs := txn.CommitAll(l)
	wantList(t, "65: sequences", seqs, slices.Repeat([]uint64{0}, 65))
	wantList(t, "65", errs, slices.Repeat([]api.Errno{api.ErrLong}, 65))
	for i, x := range l {
		want(t, "nothing has ended", x.Ended(), i == 3)
	}
	want(t, "nothing is written", d.Info().Seq, 0)
	l[3] = begin(t, d, "k3=x")
	seqs, errs = txn.CommitAll(l[:64])
	for i := range 64 {
		want(t, "64", errs[i], api.OK)
		want(t, "64: a sequence", seqs[i], uint64(i+1))
		want(t, "64: Ended", l[i].Ended(), true)
	}
	want(t, "64: answers", len(seqs)+len(errs), 128)
	_, errs = txn.CommitAll(slices.Repeat([]*txn.Txn{nil}, 65))
	wantList(t, "65 that are nil", errs, slices.Repeat([]api.Errno{api.ErrLong}, 65))
}

func TestCommitAllEngines(t *testing.T) { // P14.3: ones of another engine
	d, other := fresh(t), fresh(t)
	a, b, c := begin(t, d, "a=1"), begin(t, other, "b=1"), begin(t, d, "c=1")
	wantAll(t, "another engine", []*txn.Txn{nil, a, b, c, b}, []uint64{0, 1, 0, 2, 0}, []api.Errno{api.ErrClosed, 0, api.ErrArg, 0, api.ErrArg})
	want(t, "it has not ended", b.Ended(), false)
	want(t, "nothing is written there", other.Info().Seq, 0)
	wantCommit(t, "it can be committed", b, 1, api.OK)
	a = begin(t, d, "a=2")
	want(t, "Abort", a.Abort(), api.OK)
	b, c = begin(t, other, "b=2"), begin(t, d, "c=2")
	wantAll(t, "behind one that has ended", []*txn.Txn{a, b, c}, []uint64{0, 0, 3}, []api.Errno{api.ErrDone, api.ErrArg, 0})
	want(t, "it has not ended", b.Ended(), false)
	wantAll(t, "behind one that Begin did not give", []*txn.Txn{{}, b}, []uint64{0, 2}, []api.Errno{api.ErrClosed, 0})
	wantAll(t, "one of another engine that has ended", []*txn.Txn{c, b}, []uint64{0, 0}, []api.Errno{api.ErrDone, api.ErrDone})
}

func TestCommitAllRefused(t *testing.T) { // P14.3: what refuses one refuses all
	for _, kind := range []int{api.FaultClean, api.FaultDone} {
		d := fresh(t)
		write(t, d, "a=1")
		old := begin(t, d, "a=0")
		write(t, d, "a=2")
		l := []*txn.Txn{begin(t, d, "b=1"), begin(t, d), old, nil, begin(t, d, "c=1"), begin(t, d, "b=2")}
		d.FS().Fail([]api.Fault{{Op: api.OpSync, Nth: 1, Kind: kind}})
		wantAll(t, "a failure", l, []uint64{0, 2, 0, 0, 0, 0}, []api.Errno{api.ErrIO, 0, api.ErrConflict, api.ErrClosed, api.ErrIO, api.ErrConflict})
		want(t, "none is there", there(d), "a=2")
		for i, x := range l {
			want(t, "Ended "+strconv.Itoa(i), x.Ended(), true)
		}
		want(t, "all are released", d.Info().Oldest, 2)
		l = []*txn.Txn{begin(t, d, "b=1"), begin(t, d, "c=1"), begin(t, d)}
		wantAll(t, "an engine that stopped", l, []uint64{0, 0, 2}, []api.Errno{api.ErrStopped, api.ErrStopped, 0})
		wantAll(t, "nothing to write", []*txn.Txn{begin(t, d)}, []uint64{2}, []api.Errno{0})
	}
	d := fresh(t) // no room for all of them, though for the first one
	f := d.FS()
	for i := 0; f.Left() > 60; i++ {
		name := "filler-" + strconv.Itoa(i)
		f.Create(name)
		f.Append(name, make([]byte, min(f.Left()-60, api.MaxFile)))
	}
	l := []*txn.Txn{begin(t, d, "a=1"), begin(t, d, "b="+fmt.Sprintf("%0100d", 1))}
	wantAll(t, "no room", l, []uint64{0, 0}, []api.Errno{api.ErrFull, api.ErrFull})
	want(t, "none is there", there(d), "")
	wantCommit(t, "the first one alone", begin(t, d, "a=1"), 1, api.OK)
}
