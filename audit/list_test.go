package audit_test

import (
	"fmt"
	"math"
	"slices"
	"strings"
	"testing"

	"atrium/api"
	"atrium/audit"
)

func TestList(t *testing.T) { // P24.3: from wherever, most at most
	d := fresh(t)
	x := begin(t, d)
	const n = 40
	l := some(n)
	lay(t, x, "acme", l[:20], empty) // the ledger is not asked
	lay(t, x, "acm", some(3), empty)
	lay(t, x, "acmee", some(3), empty)
	lay(t, x, "acme-", some(3), empty)
	commit(t, x)
	x = begin(t, d)
	lay(t, x, "acme", l[20:], empty) // half of it are its own writes
	for _, from := range []int{math.MinInt, -1 << 32, -1, 0, 1, 2, 19, 20, 21, 22, n - 1, n, n + 1, n + 2, 1 << 32, math.MaxInt} {
		rest := l[min(max(from, 1)-1, n):]
		for _, most := range []int{math.MinInt, -1 << 32, -1, 0, 1, 2, 19, 20, n - 1, n, n + 1, 1 << 32, math.MaxInt} {
			wantList(t, x, "acme", from, most, rest[:max(0, min(most, len(rest)))], api.OK)
		}
	}
	want(t, "nothing is written", len(x.Writes()), 21)
	wantList(t, x, "other", 1, 9, nil, api.OK)
	wantList(t, x, "acm", 1, 9, some(3), api.OK)
}

func TestListHoles(t *testing.T) { // P24.3: the entries that it sees, by their keys
	x := begin(t, fresh(t))
	l := some(9)
	lay(t, x, "acme", l, empty)
	x.Delete(entryKey("acme", 2))
	x.Delete(entryKey("acme", 5))
	x.Delete(entryKey("acme", 9))
	is := []api.Entry{l[0], l[2], l[3], l[5], l[6], l[7]}
	wantList(t, x, "acme", 1, 9, is, api.OK)
	wantList(t, x, "acme", 2, 2, is[1:3], api.OK)
	wantList(t, x, "acme", 5, 1, is[3:4], api.OK)
	wantList(t, x, "acme", 9, 1, nil, api.OK)
	other := api.Entry{Number: 77, Kind: 1, Subject: "its text has another Number"}
	put(t, x, entryKey("acme", 4), textOf(other))
	wantList(t, x, "acme", 4, 2, []api.Entry{other, l[5]}, api.OK)
	wantList(t, x, "acme", 9, 9, nil, api.OK)
	last := api.Entry{Number: math.MaxInt, Kind: 1}
	put(t, x, entryKey("acme", math.MaxInt64), textOf(last))
	wantList(t, x, "acme", math.MaxInt, 9, []api.Entry{last}, api.OK)
	wantList(t, x, "acme", 9, 9, []api.Entry{last}, api.OK)
}

// wrongTexts is values that are no entry's.
var wrongTexts = []string{
	"", "x", "\x01\x01\x01", "\x01\x01\x01\x01", "\x01\x01\x01\x00\x00", "\x00\x01\x01\x00", "\x01\x00\x01\x00", "\x81\x00\x01\x01\x00", "\x01\x01\x01\x02s", strings.Repeat("\xFF", 30),
	textOf(api.Entry{Number: 1, Kind: 1, Subject: strings.Repeat("s", 129)}), textOf(api.Entry{Number: -1, Kind: 1}), textOf(api.Entry{Number: 1, Kind: -1}),
}

func TestListWrong(t *testing.T) { // P24.3: a value that is no entry's, inside and outside of what is asked
	for _, value := range wrongTexts {
		x := begin(t, fresh(t))
		l := some(9)
		lay(t, x, "acme", l, api.Ledger{Next: 1, Entries: 9, Head: headOf(l)})
		put(t, x, entryKey("acme", 5), value)
		for from := range 11 {
			for most := range 11 {
				first := max(from, 1)
				if first <= 5 && 5 < first+most {
					wantList(t, x, "acme", from, most, nil, api.ErrRecord)
				} else {
					wantList(t, x, "acme", from, most, l[min(first-1, 9):min(first-1+most, 9)], api.OK)
				}
			}
		}
		want(t, "Check", audit.Check(x, "acme"), api.ErrRecord)
		add(t, x, "acme", some(10)[9]) // one more does not ask it
		put(t, x, entryKey("acme", 5), textOf(l[4]))
		wantWhole(t, x, "acme", some(10))
	}
}

func TestWrongKeys(t *testing.T) { // P24.3: among the entries' keys one that layer 22 refuses
	for _, key := range []string{entryKey("acme", 2) + "\x00", entryKey("acme", 2) + "\x02s\x00", entryKey("acme", 2) + "\x01" + eight(1), entryKey("acme", 1<<63), entryKey("acme", math.MaxUint64), entryKey("acme", 0)[:9] + "\x02s\x00"} {
		x := begin(t, fresh(t))
		l := some(3)
		lay(t, x, "acme", l, api.Ledger{Next: 1, Entries: 3, Head: headOf(l)})
		wantWhole(t, x, "acme", l)
		for _, value := range []string{textOf(l[2]), "none"} {
			put(t, x, key, value)
			wantList(t, x, "acme", 1, 9, nil, api.ErrPlace)
			want(t, "Check", audit.Check(x, "acme"), api.ErrPlace)
		}
		put(t, x, entryKey("acme", 1), "none") // both: all keys come ahead of all values
		wantList(t, x, "acme", 1, 9, nil, api.ErrPlace)
		want(t, "Check", audit.Check(x, "acme"), api.ErrPlace)
		wantList(t, x, "acme", 2, 1, l[1:2], api.OK)
		x.Delete(key)
		want(t, "Check", audit.Check(x, "acme"), api.ErrRecord)
	}
}

func TestCheck(t *testing.T) { // P24.3: an empty list, and whole ones
	x := begin(t, fresh(t))
	want(t, "no ledger", audit.Check(x, "acme"), api.OK)
	want(t, "Put", audit.Put(x, "acme", api.Ledger{Next: 9, Head: zeros}), api.OK)
	want(t, "no entries", audit.Check(x, "acme"), api.OK)
	for _, n := range []int{1, 2, 3, 17, 300} {
		x := begin(t, fresh(t))
		l := some(n)
		lay(t, x, "acme", l, api.Ledger{Next: 1, Entries: uint64(n), Head: headOf(l)})
		want(t, fmt.Sprint(n, " entries"), audit.Check(x, "acme"), api.OK)
		want(t, "another tenant", audit.Check(x, "acm"), api.OK)
		put(t, x, entryKey("acm", 1), "none") // and what is wrong there
		want(t, "the first tenant", audit.Check(x, "acme"), api.OK)
		want(t, "another tenant", audit.Check(x, "acm"), api.ErrRecord)
	}
}

func TestCheckWrong(t *testing.T) { // P24.3: left out, turned, put in, another Number, a wrong Head
	for n := 1; n < 6; n++ {
		l := some(n)
		good := api.Ledger{Next: 4, Entries: uint64(n), Head: headOf(l)}
		check := func(what string, should api.Errno, entries []api.Entry, ledger api.Ledger) {
			t.Helper()
			x := begin(t, fresh(t))
			lay(t, x, "acme", entries, ledger)
			want(t, what, audit.Check(x, "acme"), should)
		}
		check("the whole list", api.OK, l, good)
		for i := range n {
			out := slices.Delete(slices.Clone(l), i, i+1)
			check("left out", api.ErrAudit, out, good)
			check("left out and counted", api.ErrAudit, out, api.Ledger{Next: 4, Entries: uint64(n - 1), Head: headOf(l)})
			if i < n-1 {
				check("left out, counted and chained", api.ErrAudit, out, api.Ledger{Next: 4, Entries: uint64(n - 1), Head: headOf(out)})
			}
			for _, turned := range []api.Entry{{Kind: 1}, {Tick: 1}, {Subject: "s"}} {
				turn := slices.Clone(l)
				turn[i].Kind += turned.Kind
				turn[i].Tick += turned.Tick
				turn[i].Subject += turned.Subject
				check("turned", api.ErrAudit, turn, good)
				check("turned and chained", api.OK, turn, api.Ledger{Next: 4, Entries: uint64(n), Head: headOf(turn)})
			}
			head := []byte(headOf(l))
			head[i*5]++
			check("a wrong Head", api.ErrAudit, l, api.Ledger{Next: 4, Entries: uint64(n), Head: string(head)})
		}
		more := some(n + 1)
		check("put in", api.ErrAudit, more, good)
		check("put in and counted", api.ErrAudit, more, api.Ledger{Next: 4, Entries: uint64(n + 1), Head: headOf(l)})
		check("put in and chained", api.ErrAudit, more, api.Ledger{Next: 4, Entries: uint64(n), Head: headOf(more)})
		check("put in, counted and chained", api.OK, more, api.Ledger{Next: 4, Entries: uint64(n + 1), Head: headOf(more)})
		check("the head of none", api.ErrAudit, l, api.Ledger{Next: 4, Entries: uint64(n), Head: zeros})
		check("too few counted", api.ErrAudit, l, api.Ledger{Next: 4, Entries: uint64(n - 1), Head: headOf(l)})
		check("very many counted", api.ErrAudit, l, api.Ledger{Next: 4, Entries: uint64(n) + 1<<63, Head: headOf(l)})
		check("no entries", api.ErrAudit, nil, good)
		check("no entries, but counted", api.ErrAudit, nil, api.Ledger{Next: 4, Entries: uint64(n), Head: zeros})
		far := append(slices.Clone(l), api.Entry{Number: math.MaxInt, Kind: 1})
		check("far behind", api.ErrAudit, far, good)
		x := begin(t, fresh(t)) // without a ledger
		lay(t, x, "acme", l, good)
		x.Delete(ledgerKey("acme"))
		want(t, "no ledger", audit.Check(x, "acme"), api.ErrAudit)
	}
}

func TestCheckNumbers(t *testing.T) { // P24.3: another Number in a text than in its key
	for n := 1; n < 6; n++ {
		for i := range n {
			for _, number := range []int{1, 2, i, i + 2, n, n + 1, math.MaxInt} {
				if number < 1 || number == i+1 {
					continue
				}
				x := begin(t, fresh(t))
				l := some(n)
				lay(t, x, "acme", l, empty)
				l[i].Number = number
				put(t, x, entryKey("acme", uint64(i+1)), textOf(l[i]))
				put(t, x, ledgerKey("acme"), ledgerValue(api.Ledger{Next: 1, Entries: uint64(n), Head: headOf(l)})) // the chain is theirs
				want(t, "another Number", audit.Check(x, "acme"), api.ErrAudit)
				wantList(t, x, "acme", 1, 9, l, api.OK)
			}
		}
		x := begin(t, fresh(t)) // texts in order under keys that begin with 2
		l := some(n)
		for i, e := range l {
			put(t, x, entryKey("acme", uint64(i+2)), textOf(e))
		}
		put(t, x, ledgerKey("acme"), ledgerValue(api.Ledger{Next: 1, Entries: uint64(n), Head: headOf(l)}))
		want(t, "another key", audit.Check(x, "acme"), api.ErrAudit)
	}
}

func TestCheckOrder(t *testing.T) { // R2: a value that is none comes ahead of a list that is wrong
	for _, value := range wrongTexts {
		for at := uint64(1); at < 6; at++ {
			x := begin(t, fresh(t))
			lay(t, x, "acme", some(4)[2:], api.Ledger{Next: 1, Entries: 77, Head: zeros})
			want(t, "a wrong list", audit.Check(x, "acme"), api.ErrAudit)
			put(t, x, entryKey("acme", at), value)
			want(t, "a wrong value", audit.Check(x, "acme"), api.ErrRecord)
		}
	}
	x := begin(t, fresh(t))
	lay(t, x, "acme", some(4)[2:], empty)
	put(t, x, ledgerKey("acme"), "none")
	want(t, "a wrong ledger", audit.Check(x, "acme"), api.ErrRecord)
}

func TestVerify(t *testing.T) { // P24.3, P24.4
	want(t, "nothing", audit.Verify(nil, zeros), true)
	want(t, "nothing", audit.Verify([]api.Entry{}, zeros), true)
	for _, head := range []string{"", zeros[1:], zeros + "\x00", strings.Repeat("0", 64), zeros[1:] + "\x01", headOf(some(1))} {
		want(t, fmt.Sprintf("nothing, with %q", head), audit.Verify(nil, head), false)
	}
	for n := 1; n < 8; n++ {
		l := some(n)
		head := headOf(l)
		want(t, "the list", audit.Verify(l, head), true)
		for _, other := range []string{"", zeros, head[1:], head + "\x00", headOf(l[:n-1]), headOf(some(n + 1)), head[:31] + string([]byte{head[31] ^ 1})} {
			want(t, "another head", audit.Verify(l, other), false)
		}
		for i := range n {
			for k, turn := range []func(*api.Entry){
				func(e *api.Entry) { e.Number++ }, func(e *api.Entry) { e.Number-- }, func(e *api.Entry) { e.Number = -e.Number }, func(e *api.Entry) { e.Kind++ }, func(e *api.Entry) { e.Kind = 0 }, func(e *api.Entry) { e.Kind = -1 }, func(e *api.Entry) { e.Tick++ }, func(e *api.Entry) { e.Tick ^= 1 << 63 }, func(e *api.Entry) { e.Subject += "s" }, func(e *api.Entry) { e.Subject = strings.Repeat("s", 129) }, func(e *api.Entry) { e.Subject = "S" },
			} {
				turned := slices.Clone(l)
				turn(&turned[i])
				want(t, fmt.Sprint("turn ", k), audit.Verify(turned, head), false)
				if turned[i].Number != i+1 {
					want(t, fmt.Sprint("turn ", k, " of a Number, with its own head"), audit.Verify(turned, headOf(turned)), false)
				}
			}
			out := slices.Delete(slices.Clone(l), i, i+1)
			in := slices.Insert(slices.Clone(l), i, api.Entry{Number: i + 1, Kind: 9})
			moved := append(slices.Clone(out), l[i])
			for k, other := range [][]api.Entry{out, in, moved} {
				if slices.Equal(other, l) {
					continue
				}
				want(t, fmt.Sprint("left out, put in, moved ", k), audit.Verify(other, head), false)
				for j := range other {
					other[j].Number = j + 1
				}
				want(t, fmt.Sprint("and numbered anew ", k), audit.Verify(other, head), slices.Equal(other, l))
				want(t, fmt.Sprint("with its own head ", k), audit.Verify(other, headOf(other)), true)
			}
		}
		want(t, "put behind", audit.Verify(some(n+1), head), false)
	}
}

func TestVerifyNoTexts(t *testing.T) { // P24.3: what layer 22 has no text of has no chain
	for _, e := range []api.Entry{{Number: 1}, {Number: 1, Kind: -1}, {Number: 1, Kind: 1, Subject: strings.Repeat("s", 129)}} {
		want(t, "no text", audit.Verify([]api.Entry{e}, headOf([]api.Entry{e})), false)
		want(t, "no text is not an empty one", audit.Verify([]api.Entry{e}, chain(zeros, "")), false)
	}
}

func TestNewMemory(t *testing.T) { // R3: what was told, or handed in, may be changed
	x := begin(t, fresh(t))
	for _, e := range some(5) {
		add(t, x, "acme", e)
	}
	l, _ := audit.List(x, "acme", 1, 9)
	l = l[:cap(l)]
	for i := range l {
		l[i] = api.Entry{Number: 9, Subject: "turned"}
	}
	wantWhole(t, x, "acme", some(5))
	handed := append(some(5), some(3)...)
	audit.Verify(handed[:5], headOf(some(5)))
	want(t, "what was handed in", handed, append(some(5), some(3)...))
}
