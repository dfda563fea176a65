package txn_test

import (
	"fmt"
	"slices"
	"strconv"
	"strings"
	"testing"

	"atrium/api"
	"atrium/txn"
)

func TestExample(t *testing.T) { // the chapter's
	d := fresh(t)
	a, b := begin(t, d, "a=1"), begin(t, d, "a=2")
	wantCommit(t, "the first one", a, 1, api.OK)
	wantCommit(t, "the second one", b, 0, api.ErrConflict)
	wantCommit(t, "the third one", begin(t, d, "a=3"), 2, api.OK)
	want(t, "what is there", there(d), "a=3")
}

func TestBegin(t *testing.T) { // P14.1
	x, e := txn.Begin(nil)
	want(t, "nil", e, api.ErrArg)
	want(t, "nil: none", x == nil, true)
	d := fresh(t)
	for n := range uint64(3) {
		x := begin(t, d)
		want(t, "Snapshot", x.Snapshot(), n)
		want(t, "Ended", x.Ended(), false)
		want(t, "Writes", len(x.Writes()), 0)
		want(t, "it is kept", d.Info().Oldest, 0)
		write(t, d, "a=1")
		want(t, "Snapshot behind a write", x.Snapshot(), n)
	}
}

func TestGet(t *testing.T) { // P14.1, P14.5
	d := fresh(t)
	write(t, d, "a=1", "b=1", "c=1", "d=1")
	x := begin(t, d, "b=x", "c-", "e=x", "f=x", "f-", "g-", "g=y")
	write(t, d, "a=2", "b=2", "d-", "h=2")
	down(t, d)
	write(t, d, "a=3", "c=3")
	for key, should := range map[string]string{"a": "1", "b": "x", "c": "-", "d": "1", "e": "x", "f": "-", "g": "y", "h": "-", "": "-"} {
		v, is := x.Get(key)
		want(t, "is "+key, is, should != "-")
		want(t, "Get of "+key, v, strings.TrimSuffix(should, "-"))
	}
	want(t, "Scan", seen(x, "", ""), "a=1 b=x d=1 e=x g=y")
	want(t, "Put", x.Put("a", ""), api.OK)
	v, is := x.Get("a")
	want(t, "an empty value", v, "")
	want(t, "is there", is, true)
	want(t, "what others see", there(d), "a=3 b=2 c=3 h=2")
}

func TestPut(t *testing.T) { // P14.1: what may not be
	d := fresh(t)
	x := begin(t, d, "a=1")
	long := strings.Repeat("k", 128)
	for what, e := range map[string]api.Errno{
		"no key": x.Put("", "v"), "a long key": x.Put(long+"k", "v"), "a long value": x.Put("a", strings.Repeat("v", 1025)),
		"Delete of no key": x.Delete(""), "Delete of a long key": x.Delete(long + "k"),
	} {
		want(t, what, e, api.ErrCell)
	}
	wantList(t, "nothing has changed", x.Writes(), batch("a=1"))
	want(t, "the longest", x.Put(long, strings.Repeat("v", 1024)), api.OK)
	want(t, "Delete of the longest", x.Delete(long), api.OK)
	want(t, "the shortest", x.Put("\x00", ""), api.OK)
	wantList(t, "Writes", x.Writes(), batch("\x00=", "a=1", long+"-"))
	x.Writes()[0].Key = "z"
	wantList(t, "an answer is new memory", x.Writes(), batch("\x00=", "a=1", long+"-"))
	for range 2 { // of each key the last one
		want(t, "Put", x.Put("a", "2"), api.OK)
		want(t, "Delete", x.Delete("a"), api.OK)
		wantList(t, "Writes", x.Writes(), batch("\x00=", "a-", long+"-"))
		want(t, "Put", x.Put("a", "3"), api.OK)
		wantList(t, "Writes", x.Writes(), batch("\x00=", "a=3", long+"-"))
	}
}

func TestPutMany(t *testing.T) { // P14.1: 1024 keys, and one more
	d := fresh(t)
	x := begin(t, d)
	key := func(i int) string { return "k" + strconv.Itoa(10000+i) }
	for i := range 1024 {
		if i%3 == 0 {
			want(t, "Delete", x.Delete(key(i)), api.OK)
		} else {
			want(t, "Put", x.Put(key(i), "1"), api.OK)
		}
	}
	want(t, "one more", x.Put("z", "1"), api.ErrLong)
	want(t, "one more to delete", x.Delete("z"), api.ErrLong)
	want(t, "what may not be is told first", x.Put("", "1"), api.ErrCell)
	want(t, "one that it writes", x.Put(key(7), "2"), api.OK)
	want(t, "one that it deletes", x.Delete(key(7)), api.OK)
	want(t, "Writes", len(x.Writes()), 1024)
	_, is := x.Get("z")
	want(t, "it is not written", is, false)
	wantCommit(t, "Commit", x, 1, api.OK)
	want(t, "behind the end", x.Put("z", "1"), api.ErrDone)
	want(t, "behind the end, too many and what may not be", x.Put("", "1"), api.ErrDone)
	want(t, "what is there", len(strings.Fields(there(d))), 682-1)
}

func TestScan(t *testing.T) { // P14.1
	d := fresh(t)
	write(t, d, "b=1", "d=1", "f=1", "h=1")
	x := begin(t, d, "a=x", "b=x", "c=x", "d-", "g-", "h=x", "i=x")
	write(t, d, "e=2", "f-", "h-")
	all := []string{"a=x", "b=x", "c=x", "f=1", "h=x", "i=x"}
	ends := strings.Split(" A a b bb c d e f g h i j", " ")
	for _, from := range ends {
		for _, to := range ends {
			var should []string
			for _, w := range all {
				if w[:1] >= from && (to == "" || w[:1] < to) {
					should = append(should, w)
				}
			}
			want(t, fmt.Sprintf("from %q to %q", from, to), seen(x, from, to), strings.Join(should, " "))
		}
	}
	for n := range len(all) + 1 { // it may be stopped, and begins anew
		var told []string
		for k, v := range x.Scan("", "") {
			if len(told) == n {
				break
			}
			told = append(told, k+"="+v)
		}
		wantList(t, "stopped", told, all[:n])
	}
	want(t, "of nothing", seen(begin(t, fresh(t)), "", ""), "")
	want(t, "of own writes alone", seen(begin(t, fresh(t), "a=1", "b-", "c=2"), "", ""), "a=1 c=2")
	want(t, "of deletes alone", seen(begin(t, d, "b-", "d-", "e-"), "", ""), "")
}

func TestScanAsItWas(t *testing.T) { // P14.1, R5: as it is when Scan is called
	d := fresh(t)
	write(t, d, "a=1", "b=1", "c=1")
	x := begin(t, d, "b=x", "d=x")
	l := x.Scan("", "")
	again := func(what string) {
		t.Helper()
		var told []string
		for k, v := range l {
			told = append(told, k+"="+v)
			x.Put(k+"+", "y") // while it is ranged over
		}
		want(t, what, strings.Join(told, " "), "a=1 b=x c=1 d=x")
	}
	again("at first")
	x.Put("a", "z")
	x.Delete("d")
	write(t, d, "c=2")
	again("behind writes")
	wantCommit(t, "Commit", x, 3, api.OK)
	down(t, d)
	again("behind the end")
}

func TestCommit(t *testing.T) { // P14.2
	d := fresh(t)
	write(t, d, "a=1", "b=1")
	x := begin(t, d, "c=2", "a-")
	wantCommit(t, "with writes", x, 2, api.OK)
	want(t, "what is there", there(d), "b=1 c=2")
	was := standing(d)
	wantCommit(t, "twice", x, 0, api.ErrDone)
	want(t, "Abort behind it", x.Abort(), api.ErrDone)
	want(t, "Put behind it", x.Put("z", ""), api.ErrDone)
	want(t, "Delete behind it", x.Delete("z"), api.ErrDone)
	want(t, "nothing has changed", standing(d), was)
	wantList(t, "Writes behind it", x.Writes(), batch("a-", "c=2"))
	want(t, "Snapshot behind it", x.Snapshot(), 1)
	x = begin(t, d)
	write(t, d, "b=3")
	want(t, "kept", d.Info().Oldest, 2)
	was = there(d)
	wantCommit(t, "without writes", x, 2, api.OK)
	want(t, "released", d.Info().Oldest, 3)
	want(t, "nothing is written", there(d) == was && d.Info().Seq == 3, true)
	wantCommit(t, "without writes, twice", x, 0, api.ErrDone)
}

func TestConflict(t *testing.T) { // P14.2, P14.6
	d := fresh(t)
	write(t, d, "a=1", "b=1")
	for what, words := range map[string][]string{"put": {"b=x"}, "deleted": {"b-"}, "made": {"new=1"}, "made and deleted": {"b=x", "new-"}} {
		x := begin(t, d, "a=x", "b=y", "new=y")
		y := begin(t, d, "c=y") // writes another key
		z := begin(t, d)        // writes none
		n := write(t, d, words...)
		kept := d.Info().Oldest
		want(t, what+": kept", kept, n-1)
		wantCommit(t, what, x, 0, api.ErrConflict)
		want(t, what+": nothing is written", d.Info().Seq, n)
		wantCommit(t, what+": another key", y, n+1, api.OK)
		wantCommit(t, what+": none", z, n-1, api.OK)
		want(t, what+": all are released", d.Info().Oldest, n+1)
		wantCommit(t, what+": twice", x, 0, api.ErrDone)
	}
	x := begin(t, d, "g-") // a key that is gone, and merged away since
	write(t, d, "g=1")
	write(t, d, "g-")
	down(t, d)
	wantCommit(t, "gone since", x, 0, api.ErrConflict)
	x = begin(t, d, "g-")
	down(t, d)
	wantCommit(t, "gone ahead", x, d.Info().Seq+1, api.OK)
	x = begin(t, d, "a=q") // the same value is a write, too
	write(t, d, "a=q")
	wantCommit(t, "the same value", x, 0, api.ErrConflict)
}

func TestAbort(t *testing.T) { // P14.2
	d := fresh(t)
	write(t, d, "a=1")
	x := begin(t, d, "a=x", "b=x")
	write(t, d, "c=2")
	want(t, "kept", d.Info().Oldest, 1)
	want(t, "Abort", x.Abort(), api.OK)
	want(t, "Ended", x.Ended(), true)
	want(t, "released", d.Info().Oldest, 2)
	want(t, "what is there", there(d), "a=1 c=2")
	want(t, "Abort twice", x.Abort(), api.ErrDone)
	wantCommit(t, "Commit behind it", x, 0, api.ErrDone)
	want(t, "Put behind it", x.Put("a", "1"), api.ErrDone)
	want(t, "released once", d.Release(1), api.ErrNone)
}

func TestEnded(t *testing.T) { // P14.1: what it sees behind its end
	d := fresh(t)
	write(t, d, "a=1", "b=1")
	x := begin(t, d, "b=x", "c-", "e=x")
	want(t, "Abort", x.Abort(), api.OK)
	write(t, d, "b=2", "c=2")
	want(t, "as far as the engine can read it", seen(x, "", ""), "a=1 b=x e=x")
	write(t, d, "a=3")
	down(t, d)
	v, is := x.Get("b")
	want(t, "its own writes always", v, "x")
	want(t, "is there", is, true)
	_, is = x.Get("c")
	want(t, "its own deletes always", is, false)
	want(t, "Scan has them", seen(x, "b", ""), "b=x e=x")
	want(t, "Snapshot", x.Snapshot(), 1)
}

func TestCommitRefused(t *testing.T) { // P14.2: what the engine's Write tells
	d := fresh(t)
	write(t, d, "a=1")
	f := d.FS()
	for i := 0; f.Left() > 5; i++ {
		name := "filler-" + strconv.Itoa(i)
		f.Create(name)
		f.Append(name, make([]byte, min(f.Left()-5, api.MaxFile)))
	}
	x := begin(t, d, "a=2")
	wantCommit(t, "no room", x, 0, api.ErrFull)
	want(t, "nothing has changed", there(d), "a=1")
	wantCommit(t, "it has ended", x, 0, api.ErrDone)
	wantCommit(t, "nothing to write", begin(t, d), 1, api.OK)
	for _, name := range slices.DeleteFunc(f.List(), func(name string) bool { return !strings.HasPrefix(name, "filler-") }) {
		f.Remove(name)
	}
	x, y := begin(t, d, "a=3"), begin(t, d, "b=3")
	f.Fail([]api.Fault{{Op: api.OpSync, Nth: 1, Kind: api.FaultClean}})
	wantCommit(t, "a failure", x, 0, api.ErrIO)
	wantCommit(t, "an engine that stopped", y, 0, api.ErrStopped)
	want(t, "what is there", there(d), "a=1")
	wantCommit(t, "nothing to write", begin(t, d), 1, api.OK)
	want(t, "all are released", d.Release(1), api.ErrNone)
}

func TestNone(t *testing.T) { // P14.4
	d := fresh(t)
	write(t, d, "a=1")
	real := begin(t, d, "b=1")
	copied := *real
	for what, x := range map[string]*txn.Txn{"nil": nil, "an empty one": {}, "a copy": &copied} {
		want(t, what+": Snapshot", x.Snapshot(), 0)
		v, is := x.Get("a")
		want(t, what+": Get", v, "")
		want(t, what+": Get", is, false)
		want(t, what+": Put", x.Put("a", "1"), api.ErrClosed)
		want(t, what+": Put of what may not be", x.Put("", "1"), api.ErrClosed)
		want(t, what+": Delete", x.Delete("a"), api.ErrClosed)
		want(t, what+": Scan", seen(x, "", ""), "")
		want(t, what+": Writes", len(x.Writes()), 0)
		wantCommit(t, what+": Commit", x, 0, api.ErrClosed)
		want(t, what+": Abort", x.Abort(), api.ErrClosed)
		seqs, errs := txn.CommitAll([]*txn.Txn{x})
		wantList(t, what+": CommitAll", seqs, []uint64{0})
		wantList(t, what+": CommitAll", errs, []api.Errno{api.ErrClosed})
	}
	want(t, "the one that Begin gave", real.Ended(), false)
	wantCommit(t, "the one that Begin gave", real, 2, api.OK)
}
