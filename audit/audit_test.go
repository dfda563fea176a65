package audit_test

import (
	"fmt"
	"math"
	"strings"
	"testing"

	"atrium/api"
	"atrium/audit"
)

func TestExample(t *testing.T) {
	x := begin(t, fresh(t))
	one, two := api.Entry{Number: 1, Kind: 1, Tick: 7, Subject: "t"}, api.Entry{Number: 2, Kind: 1, Tick: 7, Subject: "t"}
	add(t, x, "acme", one)
	add(t, x, "acme", two)
	wantList(t, x, "acme", 2, 9, []api.Entry{two}, api.OK)
}

// wrongNames is no tenants' Names.
var wrongNames = []string{"", "No", "a b", "a.b", "a_b", "é", "a\x00", "\xFF", " a", strings.Repeat("a", 33), strings.Repeat("a", 500)}

// rightNames is tenants' Names.
var rightNames = []string{"a", "acme", "0", "-", "a-b-9", strings.Repeat("z", 32)}

func TestNil(t *testing.T) { // P24.1 to P24.3: it comes ahead of all else
	for _, tenant := range append(rightNames, wrongNames...) {
		wantLedger(t, nil, tenant, api.Ledger{}, api.ErrClosed)
		want(t, "Put", audit.Put(nil, tenant, empty), api.ErrClosed)
		want(t, "Put", audit.Put(nil, tenant, api.Ledger{}), api.ErrClosed)
		for kind := range 2 {
			got, e := audit.Append(nil, tenant, kind, 7, strings.Repeat("s", 128+kind))
			want(t, "Append", e, api.ErrClosed)
			want(t, "Append", got, api.Entry{})
		}
		for _, most := range []int{-1, 0, 1} {
			wantList(t, nil, tenant, 1, most, nil, api.ErrClosed)
		}
		want(t, "Check", audit.Check(nil, tenant), api.ErrClosed)
	}
}

func TestNames(t *testing.T) { // P24.1 to P24.3: a Name that may not be
	for _, tenant := range wrongNames {
		x := begin(t, fresh(t))
		put(t, x, "other", "1")
		wantLedger(t, x, tenant, api.Ledger{}, api.ErrPlace)
		want(t, "Put", audit.Put(x, tenant, empty), api.ErrPlace)
		want(t, "Put of none", audit.Put(x, tenant, api.Ledger{}), api.ErrPlace) // both wrong
		wantRefused(t, "Append", x, tenant, 1, "", api.ErrPlace)
		wantRefused(t, "Append of none", x, tenant, 0, "", api.ErrPlace)
		for _, most := range []int{-1, 0, 1, 9} {
			wantList(t, x, tenant, 1, most, nil, api.ErrPlace)
		}
		want(t, "Check", audit.Check(x, tenant), api.ErrPlace)
		want(t, "writes", x.Writes(), []api.Write{{Key: "other", Value: "1"}})
		x.Abort()
		wantRefused(t, "behind its end", x, tenant, 1, "", api.ErrPlace)
		want(t, "Put behind its end", audit.Put(x, tenant, empty), api.ErrPlace)
	}
	for _, tenant := range rightNames {
		x := begin(t, fresh(t))
		wantLedger(t, x, tenant, empty, api.OK)
		add(t, x, tenant, some(1)[0])
		wantWhole(t, x, tenant, some(1))
	}
}

func TestLedgerAndPut(t *testing.T) { // P24.1
	d := fresh(t)
	head := headOf(some(3))
	for _, l := range []api.Ledger{
		empty, {Next: 1, Head: head}, {Next: 7, Entries: 3, Head: head}, {Next: math.MaxUint64, Entries: math.MaxUint64, Head: strings.Repeat("\xFF", 32)}, {Next: 1 << 63, Entries: 1 << 63, Head: zeros},
	} {
		x := begin(t, d)
		ahead, _ := audit.Ledger(x, "acme")
		want(t, "Put", audit.Put(x, "acme", l), api.OK)
		wantLedger(t, x, "acme", l, api.OK) // in the same transaction
		wantLedger(t, x, "acm", empty, api.OK)
		wantLedger(t, x, "acmee", empty, api.OK)
		want(t, "its writes", x.Writes(), []api.Write{{Key: ledgerKey("acme"), Value: ledgerValue(l)}})
		y := begin(t, d)
		wantLedger(t, y, "acme", ahead, api.OK) // in another one it is not yet
		commit(t, x)
		wantLedger(t, y, "acme", ahead, api.OK)
		wantLedger(t, begin(t, d), "acme", l, api.OK) // in one behind its commit
		wantLedger(t, x, "acme", l, api.OK)           // behind its own end
	}
	x := begin(t, d)
	x.Delete(ledgerKey("acme"))
	wantLedger(t, x, "acme", empty, api.OK)
	want(t, "Put over that", audit.Put(x, "acme", api.Ledger{Next: 5, Head: zeros}), api.OK)
	wantLedger(t, x, "acme", api.Ledger{Next: 5, Head: zeros}, api.OK)
}

func TestPutRefused(t *testing.T) { // P24.1: what may be no ledger
	x := begin(t, fresh(t))
	put(t, x, ledgerKey("acme"), ledgerValue(api.Ledger{Next: 9, Entries: 4, Head: zeros}))
	for _, l := range []api.Ledger{
		{}, {Head: zeros}, {Next: 1}, {Next: 1, Head: zeros[:31]}, {Next: 1, Head: zeros + "\x00"}, {Next: 1, Head: strings.Repeat("0", 64)}, {Next: 0, Entries: 9, Head: zeros},
	} {
		want(t, "Put", audit.Put(x, "acme", l), api.ErrRecord)
		wantLedger(t, x, "acme", api.Ledger{Next: 9, Entries: 4, Head: zeros}, api.OK)
	}
	x.Abort()
	want(t, "Put of none behind the end", audit.Put(x, "acme", api.Ledger{}), api.ErrRecord)
	want(t, "Put behind the end", audit.Put(x, "acme", empty), api.ErrDone)
	wantLedger(t, x, "acme", api.Ledger{Next: 9, Entries: 4, Head: zeros}, api.OK)
}

// wrongLedgers is values that are no ledger's.
var wrongLedgers = []string{"", "x", zeros, ledgerValue(empty)[1:], ledgerValue(empty) + "\x00", ledgerValue(api.Ledger{Next: 0, Head: zeros}), ledgerValue(api.Ledger{Next: 1, Head: zeros[1:]})}

func TestWrongLedger(t *testing.T) { // P24.1, P24.2, P24.3: a value that is none
	for _, value := range wrongLedgers {
		d := fresh(t)
		x := begin(t, d)
		put(t, x, ledgerKey("acme"), value)
		put(t, x, entryKey("acme", 1), textOf(some(1)[0]))
		commit(t, x)
		x = begin(t, d)
		wantLedger(t, x, "acme", api.Ledger{}, api.ErrRecord)
		wantRefused(t, "Append", x, "acme", 1, "s", api.ErrRecord)
		want(t, "Check", audit.Check(x, "acme"), api.ErrRecord)
		wantList(t, x, "acme", 1, 9, some(1), api.OK) // the list does not ask it
		wantLedger(t, x, "acm", empty, api.OK)
		want(t, "Put", audit.Put(x, "acme", api.Ledger{Next: 3, Entries: 1, Head: headOf(some(1))}), api.OK)
		wantWhole(t, x, "acme", some(1))
	}
}

func TestAppend(t *testing.T) { // P24.2, P24.4: once, twice, many times
	for _, n := range []int{1, 2, 3, 16, 100, 511} {
		d := fresh(t)
		x := begin(t, d)
		l := some(n)
		for i, e := range l {
			add(t, x, "acme", e)
			if i < 4 || i > n-3 {
				wantWhole(t, x, "acme", l[:i+1])
			}
		}
		want(t, "its writes", len(x.Writes()), n+1)
		for i, w := range x.Writes()[:n] {
			want(t, "an entry", w, api.Write{Key: entryKey("acme", uint64(i+1)), Value: textOf(l[i])})
		}
		want(t, "the ledger", x.Writes()[n], api.Write{Key: ledgerKey("acme"), Value: ledgerValue(api.Ledger{Next: 1, Entries: uint64(n), Head: headOf(l)})})
		wantWhole(t, begin(t, d), "acme", nil) // others do not see it yet
		commit(t, x)
		wantWhole(t, begin(t, d), "acme", l)
		wantWhole(t, begin(t, d), "acm", nil)
	}
}

func TestAppendBehindCommits(t *testing.T) { // P24.2, P24.4: each in a transaction of its own
	f := disk()
	d := open(t, f)
	l := some(60)
	for i, e := range l {
		x := begin(t, d)
		wantWhole(t, x, "acme", l[:i])
		add(t, x, "acme", e)
		wantWhole(t, x, "acme", l[:i+1])
		commit(t, x)
		switch i % 5 { // whatever the engine does between
		case 1:
			d.Freeze()
		case 2:
			d.Flush()
		case 3:
			d.Compact()
		case 4:
			f.Crash(api.Crash{})
			d = open(t, f)
		}
	}
	wantWhole(t, begin(t, d), "acme", l)
}

func TestAppendKeepsNext(t *testing.T) { // P24.2: of the ledger Entries and Head change alone
	x := begin(t, fresh(t))
	audit.Put(x, "acme", api.Ledger{Next: 1<<40 + 7, Head: zeros})
	add(t, x, "acme", some(1)[0])
	wantLedger(t, x, "acme", api.Ledger{Next: 1<<40 + 7, Entries: 1, Head: headOf(some(1))}, api.OK)
}

func TestAppendFields(t *testing.T) { // P24.2: kinds, ticks and subjects at their ends
	for _, e := range []api.Entry{
		{Kind: 1}, {Kind: math.MaxInt}, {Kind: 1 << 32}, {Kind: 10, Tick: math.MaxUint64}, {Kind: 1, Tick: 1 << 63}, {Kind: 1, Subject: "\x00"}, {Kind: 1, Subject: "\xFF\n"}, {Kind: 1, Subject: strings.Repeat("s", 127)}, {Kind: 1, Subject: strings.Repeat("s", 128)}, {Kind: 1, Subject: strings.Repeat("\xFF", 128)},
	} {
		x := begin(t, fresh(t))
		e.Number = 1
		add(t, x, "acme", e)
		wantWhole(t, x, "acme", []api.Entry{e})
	}
}

func TestAppendRefused(t *testing.T) { // P24.2: a kind below 1, a subject of 129 bytes
	for n := range 3 {
		x := begin(t, fresh(t))
		for _, e := range some(n) {
			add(t, x, "acme", e)
		}
		for _, kind := range []int{0, -1, -1 << 32, math.MinInt} {
			wantRefused(t, "a kind", x, "acme", kind, "s", api.ErrRecord)
		}
		for _, size := range []int{129, 130, 1024, 5000} {
			wantRefused(t, "a subject", x, "acme", 1, strings.Repeat("s", size), api.ErrRecord)
		}
		wantRefused(t, "both", x, "acme", 0, strings.Repeat("s", 129), api.ErrRecord)
		wantWhole(t, x, "acme", some(n))
		add(t, x, "acme", some(n + 1)[n]) // it goes on with the same Number
		wantWhole(t, x, "acme", some(n+1))
	}
}

func TestAppendBehindTheEnd(t *testing.T) { // P24.2: in a transaction that has ended
	d := fresh(t)
	x := begin(t, d)
	add(t, x, "acme", some(1)[0])
	commit(t, x)
	y := begin(t, d)
	y.Abort()
	for _, z := range []struct {
		name string
		n    int
	}{{"acme", 1}, {"other", 0}} {
		wantRefused(t, "committed", x, z.name, 1, "s", api.ErrDone)
		wantRefused(t, "aborted", y, z.name, 1, "s", api.ErrDone)
		wantRefused(t, "a kind", y, z.name, 0, "s", api.ErrRecord) // named ahead of what layer 14 refuses
		wantWhole(t, x, z.name, some(z.n))                         // reading goes on
		wantWhole(t, y, z.name, some(z.n))
		want(t, "Put", audit.Put(y, z.name, empty), api.ErrDone)
	}
}

func TestAppendNumbers(t *testing.T) { // P24.2: behind the ledger's Entries, whatever entries there are
	for _, n := range []uint64{0, 1, 5, 1 << 32, math.MaxInt64 - 1} {
		x := begin(t, fresh(t))
		head := headOf(some(2))
		put(t, x, ledgerKey("acme"), ledgerValue(api.Ledger{Next: 3, Entries: n, Head: head}))
		put(t, x, entryKey("acme", n+1), "no entry's") // it is written over
		got, e := audit.Append(x, "acme", 2, 9, "s")
		want(t, "Append", e, api.OK)
		want(t, "Append", got, api.Entry{Number: int(n + 1), Kind: 2, Tick: 9, Subject: "s"})
		l, _ := audit.Ledger(x, "acme")
		want(t, "Entries", l.Entries, n+1)
		value, _ := x.Get(entryKey("acme", n+1))
		want(t, "its text", value, textOf(got))
	}
	for _, n := range []uint64{math.MaxInt64, 1 << 63, math.MaxUint64 - 1, math.MaxUint64} { // no Number is behind these
		x := begin(t, fresh(t))
		put(t, x, ledgerKey("acme"), ledgerValue(api.Ledger{Next: 3, Entries: n, Head: zeros}))
		wantRefused(t, fmt.Sprint("behind ", n), x, "acme", 1, "s", api.ErrPlace)
		wantRefused(t, fmt.Sprint("behind ", n), x, "acme", 0, "s", api.ErrPlace)
	}
}

func TestAppendNoRoom(t *testing.T) { // P24.2: what Put of layer 14 refuses
	for _, n := range []int{1022, 1023, 1024} {
		x := begin(t, fresh(t))
		for i := range n {
			put(t, x, fmt.Sprintf("key %04d", i), "")
		}
		ahead := x.Writes()
		entry, e := audit.Append(x, "acme", 1, 7, "t")
		first := api.Write{Key: entryKey("acme", 1), Value: textOf(api.Entry{Number: 1, Kind: 1, Tick: 7, Subject: "t"})}
		switch n {
		case 1022:
			want(t, "room for both", e, api.OK)
			want(t, "the entry", entry.Number, 1)
			wantWhole(t, x, "acme", []api.Entry{entry})
		case 1023:
			want(t, "room for one", e, api.ErrLong)
			want(t, "the entry", entry, api.Entry{})
			want(t, "the first one is", x.Writes(), append([]api.Write{first}, ahead...))
			wantLedger(t, x, "acme", empty, api.OK)
			want(t, "Check", audit.Check(x, "acme"), api.ErrAudit)
		case 1024:
			want(t, "no room", e, api.ErrLong)
			want(t, "the entry", entry, api.Entry{})
			want(t, "writes", x.Writes(), ahead)
			want(t, "Put", audit.Put(x, "acme", empty), api.ErrLong)
			want(t, "Check", audit.Check(x, "acme"), api.OK)
		}
	}
}
