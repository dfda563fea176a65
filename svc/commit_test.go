package svc_test

import (
	"fmt"
	"testing"

	"atrium/api"
	"atrium/lsm"
	"atrium/model"
	"atrium/svc"
	"atrium/vfs"
)

func TestCommit(t *testing.T) { // P25.2: once
	b := newBench(t, 9)
	c := create("ada", 9, 7)
	o := prepare(t, b.d, b.l, c, 10)
	should := b.w.Fork().Do(c, 10)
	b.lies(10) // it is not there ahead of its commit
	wantAnswer(t, "ahead of its commit", o.Answer(), should)
	want(t, "Commit", o.Commit(), api.OK)
	b.w.Do(c, 10)
	b.check(10)
	for range 3 {
		want(t, "Commit again", o.Commit(), api.ErrClosed)
		o.Abort()
		wantAnswer(t, "Answer", o.Answer(), should)
		want(t, "Ready", o.Ready(), false)
		b.check(10)
	}
}

func TestAbort(t *testing.T) { // P25.2
	b := newBench(t, 9)
	c := create("ada", 9, 7)
	o := prepare(t, b.d, b.l, c, 10)
	for range 3 {
		o.Abort()
		want(t, "Commit behind Abort", o.Commit(), api.ErrClosed)
		want(t, "Ready", o.Ready(), false)
		wantAnswer(t, "Answer", o.Answer(), b.w.Fork().Do(c, 10))
		b.check(10)
	}
	want(t, "nothing lies there", all(b.d), nil)
}

func TestReadyEnds(t *testing.T) { // P25.2: of one that is ready nothing is committed
	b := newBench(t, 9)
	c := api.Call{Kind: api.CallStats}
	o := prepare(t, b.d, b.l, c, 10)
	for range 3 {
		want(t, "Commit", o.Commit(), api.ErrClosed)
		o.Abort()
		want(t, "Ready", o.Ready(), true)
		wantAnswer(t, "Answer", o.Answer(), b.w.Do(c, 10))
	}
	b.check(10)
}

// mutations is a call of each Kind that mutates, where session 1 lives.
func mutations() []api.Call {
	tok := token(1, 7)
	return []api.Call{
		create("ada", 9, 8), {Kind: api.CallTouch, Token: tok, TTL: 7}, {Kind: api.CallRevoke, Token: tok}, {Kind: api.CallRevokeUser, User: "ada"}, {Kind: api.CallRevokeAll},
	}
}

func TestConflict(t *testing.T) { // P25.2: each of the mutations against each
	for _, first := range mutations() {
		for _, second := range mutations() {
			b := newBench(t, 9, 9)
			b.create(0, "ada", 90, 10)
			b.create(1, "ada", 90, 10)
			x, y := prepare(t, b.d, b.l, first, 11), prepare(t, b.d, b.l, second, 12)
			should := b.w.Fork().Do(second, 12)
			third := second
			third.Tenant = 1 // another tenant's stands in nobody's way
			z := prepare(t, b.d, b.l, third, 13)
			want(t, "the first one", x.Commit(), api.OK)
			b.w.Do(first, 11)
			want(t, "the second one", y.Commit(), api.ErrConflict)
			b.lies(12)
			want(t, "Ready", y.Ready(), false)
			wantAnswer(t, "what it would have been told", y.Answer(), should)
			want(t, "again", y.Commit(), api.ErrClosed)
			want(t, "that of another tenant", z.Commit(), api.OK)
			b.w.Do(third, 13)
			b.check(13)
			y = prepare(t, b.d, b.l, second, 14)
			wantAnswer(t, "prepared anew", y.Answer(), b.w.Do(second, 14))
			if !y.Ready() {
				want(t, "prepared anew", y.Commit(), api.OK)
			}
			b.check(14)
		}
	}
}

// fill makes sessions until the disk is full: the bench then, and how many were made.
func fill(t *testing.T, capacity int) (*bench, *vfs.FS, int) {
	t.Helper()
	f, _ := vfs.New(capacity)
	b := benchOn(t, open(t, f), 99999, 9)
	for n := range 99999 {
		c := create("ada", 90, uint64(n))
		c.Data = "some data that takes room"
		a, e := svc.Do(b.d, b.l, c, 10)
		if e != api.OK {
			want(t, "Do", e, api.ErrFull)
			wantAnswer(t, "Do", a, full)
			return b, f, n
		}
		wantAnswer(t, "Do", a, b.w.Do(c, 10))
	}
	t.Fatal("it is never full")
	return nil, nil, 0
}

func TestFull(t *testing.T) { // P25.2, P25.3: no room: nothing has changed, and it can be read
	for _, capacity := range []int{200, 1000, 5000, 20000} {
		b, f, n := fill(t, capacity)
		b.check(10)
		tok := token(1, 0)
		for _, c := range []api.Call{create("ada", 9, 8), {Kind: api.CallTouch, Token: tok, TTL: 7}, {Kind: api.CallRevoke, Token: tok}, {Kind: api.CallRevokeUser, User: "ada"}, {Kind: api.CallRevokeAll}} {
			if n == 0 && c.Kind != api.CallCreate {
				continue
			}
			o := prepare(t, b.d, b.l, c, 11)
			wantAnswer(t, "ahead of its commit", o.Answer(), b.w.Fork().Do(c, 11))
			e := o.Commit()
			if e == api.OK { // what is shorter may still find room
				b.w.Do(c, 11)
				b.check(11)
				continue
			}
			want(t, "Commit", e, api.ErrFull)
			wantAnswer(t, "Answer", o.Answer(), full)
			want(t, "Ready", o.Ready(), false)
			want(t, "again", o.Commit(), api.ErrClosed)
			o.Abort()
			wantAnswer(t, "Answer again", o.Answer(), full)
			b.check(11)
		}
		for _, c := range []api.Call{{Kind: api.CallGet, Token: tok}, {Kind: api.CallList, User: "ada"}, {Kind: api.CallAudit, From: 1}, {Kind: api.CallStats}, {Kind: api.CallGet, Tenant: 1, Token: tok}} {
			b.do(c, 12)
		}
		f.Crash(api.Crash{Dir: f.Pending()})
		if d, e := lsm.Open(f, small()); e == api.OK {
			b.d = d
			b.check(12)
		} else {
			want(t, "Open", e, api.ErrFull)
		}
	}
}

// breaks is faults of one operation, of the kinds that a commit may do.
func breaks() []api.Fault {
	var l []api.Fault
	for _, op := range []int{api.OpCreate, api.OpAppend, api.OpSync, api.OpSyncDir} {
		for _, kind := range []int{api.FaultClean, api.FaultDone} {
			l = append(l, api.Fault{Op: op, Nth: 1, Kind: kind})
		}
	}
	return l
}

// crashes is what may be kept of what was not synced.
func crashes(f *vfs.FS) []api.Crash {
	var l []api.Crash
	for _, keep := range []int{0, 1, 20, 100, 1 << 20} {
		files := make([]int, len(f.List()))
		for i := range files {
			files[i] = keep
		}
		for dir := range f.Pending() + 1 {
			l = append(l, api.Crash{Dir: dir, Keep: files})
		}
	}
	return l
}

// wantEither is that behind each crash what lies there is one of two worlds: wholly.
func wantEither(t *testing.T, f *vfs.FS, b *bench, either ...*model.World) int {
	t.Helper()
	found := map[int]int{}
	for _, crash := range crashes(f) {
		g := f.Fork()
		want(t, "Crash", g.Crash(crash), api.OK)
		after := &bench{t: t, l: b.l, d: open(t, g)}
		s, _ := svc.Entries(after.d, b.l[0].Name)
		for i, w := range either {
			if len(w.Entries(0)) == len(s) {
				after.w = w
				found[i]++
			}
		}
		if after.w == nil {
			t.Fatalf("%d entries", len(s))
		}
		after.check(12)
	}
	return len(found)
}

func TestFails(t *testing.T) { // P25.2, P25.3: an operation fails: 500, and behind an opening anew all of it or not
	both, broken := 0, 0
	for _, ahead := range []int{1, 12} { // few bytes in memory, and so many that cells are frozen first
		for _, c := range mutations() {
			for _, fault := range breaks() {
				f, _ := vfs.New(api.MaxDisk)
				b := benchOn(t, open(t, f), 99)
				for range ahead {
					b.create(0, "ada", 90, 10)
				}
				done := b.w.Fork()
				done.Do(c, 11)
				want(t, "Fail", f.Fail([]api.Fault{fault}), api.OK)
				o := prepare(t, b.d, b.l, c, 11)
				e := o.Commit()
				if e == api.OK { // no such operation was needed
					continue
				}
				broken++
				want(t, "Commit", e, api.ErrIO)
				wantAnswer(t, "Answer", o.Answer(), failed)
				want(t, "Ready", o.Ready(), false)
				want(t, "again", o.Commit(), api.ErrClosed)
				b.check(11) // here it is not there
				for _, further := range mutations() {
					a, e := svc.Do(b.d, b.l, further, 12)
					want(t, "behind that", e, api.ErrStopped)
					wantAnswer(t, "behind that", a, failed)
				}
				b.do(api.Call{Kind: api.CallGet, Token: token(1, 7)}, 12)
				b.do(api.Call{Kind: api.CallAudit, From: 1}, 12)
				b.check(12)
				if wantEither(t, f, b, b.w, done) == 2 {
					both++
				}
			}
		}
	}
	if broken < 30 || both < 10 {
		t.Errorf("%d were broken, of %d both were found", broken, both)
	}
}

func TestDoFails(t *testing.T) { // P25.3: beside the Answer Do tells what Commit tells
	f, _ := vfs.New(api.MaxDisk)
	b := benchOn(t, open(t, f), 9)
	b.create(0, "ada", 90, 10)
	f.Fail([]api.Fault{{Op: api.OpSync, Nth: 1, Kind: api.FaultClean}})
	a, e := svc.Do(b.d, b.l, create("ada", 9, 8), 11)
	want(t, "Do", e, api.ErrIO)
	wantAnswer(t, "Do", a, failed)
	a, e = svc.Do(b.d, b.l, create("ada", 9, 8), 11)
	want(t, "Do again", e, api.ErrStopped)
	wantAnswer(t, "Do again", a, failed)
	for _, c := range []api.Call{create("", 9, 8), {Kind: api.CallStats}, {Kind: api.CallRevoke, Token: "none"}} {
		b.do(c, 11) // what is ready is told as ever
	}
}

func TestPowerGoes(t *testing.T) { // P25.2, P25.7: wherever the power goes in a commit: all of it or not
	for _, ahead := range []int{1, 12} {
		for _, c := range mutations() {
			found := 0
			for stop := range 6 {
				f, _ := vfs.New(api.MaxDisk)
				b := benchOn(t, open(t, f), 99)
				for range ahead {
					b.create(0, "ada", 90, 10)
				}
				done := b.w.Fork()
				done.Do(c, 11)
				f.Stop(stop)
				svc.Do(b.d, b.l, c, 11)
				found = max(found, wantEither(t, f, b, b.w, done))
			}
			want(t, fmt.Sprint("what was found of ", c.Kind), found, 2)
		}
	}
}

func TestNumbersEnd(t *testing.T) { // P25.1: where no number is left nothing is written, and no transaction is left behind
	for _, x := range []struct {
		value string
		fault api.Errno
	}{
		{ledgerValue(1<<64-1, 0, zeros), api.ErrRecord}, // no next one
		{ledgerValue(1, 1<<63-1, zeros), api.ErrPlace},  // no next entry
		{ledgerValue(1, 1<<64-1, zeros), api.ErrPlace},
	} {
		d := fresh(t)
		write(t, d, api.Pair{Key: ledgerKey("b"), Value: x.value})
		wantRefused(t, "create", d, some(9), create("ada", 9, 7), x.fault)
		write(t, d, api.Pair{Key: "other"})
		want(t, "what is kept", d.Info().Oldest, d.Info().Seq)
		a, e := svc.Do(d, some(9), api.Call{Kind: api.CallStats}, 10)
		want(t, "Stats", e, api.OK)
		want(t, "Next and Total are never below 0", a.Next > 0 && a.Total >= 0, true)
	}
	d := fresh(t)
	write(t, d, api.Pair{Key: ledgerKey("b"), Value: ledgerValue(1<<64-2, 0, zeros)})
	a, e := svc.Do(d, some(9), create("ada", 9, 7), 10)
	want(t, "the last number", e, api.OK)
	want(t, "its token", a.Token, token(1<<64-2, 7))
	a, _ = svc.Do(d, some(9), api.Call{Kind: api.CallStats}, 10)
	want(t, "Next, as an int", a.Next, 1<<63-1)
}
