package sweep_test

import (
	"math"
	"strings"
	"testing"

	"atrium/api"
	"atrium/sweep"
)

func TestExample(t *testing.T) {
	one, two := some(1, 5), some(2, 9)
	d := fresh(t, append(recordsOf("acme", one), recordsOf("acme", two)...)...)
	l := []string{"acme"}
	wantFind(t, d, l, 7, expiryOf("acme", one))
	wantStep(t, d, l, 7, true, api.OK)
	wantLies(t, "behind the first one", d, recordsOf("acme", two))
	wantStep(t, d, l, 7, false, api.OK)
	want(t, "Left", sweep.Left(d, l, 9), 1)
	wantLies(t, "behind the second one", d, recordsOf("acme", two))
}

// wrongNames is no tenants' Names.
func wrongNames() []string {
	return []string{"", "No", "a b", "a.b", "a_b", "é", "a\x00", "\xFF", strings.Repeat("a", 33), strings.Repeat("a", 500)}
}

func TestNone(t *testing.T) { // P26.1 to P26.3: no engine, no tenants, names that may not be, tenants that have none
	s := some(1, 5)
	d := fresh(t, recordsOf("acme", s)...)
	for _, l := range [][]string{nil, {}, {"acme"}, {"acme", "acme"}, wrongNames(), append(wrongNames(), "acme")} {
		wantNone(t, nil, l, math.MaxUint64)
		wantRun(t, nil, l, math.MaxUint64, math.MaxInt, 0, api.OK)
	}
	for _, l := range [][]string{nil, {}, {"acm"}, {"acme-"}, {"b", "a"}, wrongNames(), append(wrongNames(), "none")} {
		wantNone(t, d, l, math.MaxUint64)
	}
	wantNone(t, d, []string{"acme"}, 4)
	wantLies(t, "nothing has changed", d, recordsOf("acme", s))
	l := append(wrongNames(), "acme", "No")
	wantFind(t, d, l, 5, expiryOf("acme", s))
	want(t, "Left", sweep.Left(d, l, 5), 1)
	wantStep(t, d, l, 5, true, api.OK)
	wantLies(t, "it is gone", d)
}

func TestTick(t *testing.T) { // P26.1: now below, at and above an Expires
	for _, expires := range []uint64{1, 5, 1 << 40, 1<<63 - 1, 1 << 63, math.MaxUint64 - 1} {
		s := some(1, expires)
		d := fresh(t, recordsOf("acme", s)...)
		for _, now := range []uint64{0, expires / 2, expires - 1} {
			wantNone(t, d, []string{"acme"}, now)
		}
		for _, now := range []uint64{expires, expires + 1, math.MaxUint64} {
			wantFind(t, d, []string{"acme"}, now, expiryOf("acme", s))
			want(t, "Left", sweep.Left(d, []string{"acme"}, now), 1)
		}
		wantStep(t, d, []string{"acme"}, expires, true, api.OK)
		wantLies(t, "it is gone", d)
	}
	for _, expires := range []uint64{0, math.MaxUint64} {
		d := fresh(t, recordsOf("acme", some(1, expires))...)
		wantFind(t, d, []string{"acme"}, expires, expiryOf("acme", some(1, expires)))
		wantRun(t, d, []string{"acme"}, expires, 9, 1, api.OK)
		wantLies(t, "it is gone", d)
	}
}

func TestOrder(t *testing.T) { // P26.1: the tenants in their order, of one the record that comes first
	var l []api.Pair
	for _, tenant := range []string{"a", "b", "c"} {
		for i, expires := range []uint64{9, 5, 5, 7, 1 << 40} {
			l = append(l, recordsOf(tenant, some(10-i, expires))...) // the tokens fall
		}
	}
	d := fresh(t, l...)
	tenants := []string{"c", "none", "a", "c", "b"}
	want(t, "Left", sweep.Left(d, tenants, 8), 9)
	want(t, "Left of those that stand there twice", sweep.Left(d, []string{"b", "b", "b"}, 8), 3)
	want(t, "Left of one", sweep.Left(d, []string{"a"}, 9), 4)
	want(t, "Left of all", sweep.Left(d, tenants, math.MaxUint64), 15)
	for _, tenant := range []string{"c", "a", "b"} {
		for _, s := range []api.Session{some(8, 5), some(9, 5), some(7, 7)} {
			wantFind(t, d, tenants, 8, expiryOf(tenant, s))
			wantStep(t, d, tenants, 8, true, api.OK)
		}
	}
	wantNone(t, d, tenants, 8)
	var rest []api.Pair
	for _, tenant := range []string{"a", "b", "c"} {
		rest = append(rest, recordsOf(tenant, some(10, 9))...)
		rest = append(rest, recordsOf(tenant, some(6, 1<<40))...)
	}
	wantLies(t, "what expires later stays", d, rest)
	wantRun(t, d, tenants, 9, 99, 3, api.OK) // and at a later tick
	wantRun(t, d, tenants, 1<<40, 99, 3, api.OK)
	wantLies(t, "all is gone", d)
}

func TestStale(t *testing.T) { // P26.2: records by expiry with something else behind them
	s := some(1, 5)
	other := s
	for _, expires := range []uint64{0, 4, 6, 99, math.MaxUint64} {
		other.Expires = expires
		rest := recordsOf("acme", other)[1:]
		d := fresh(t, append(rest, recordsOf("acme", s)[0])...)
		wantFind(t, d, []string{"acme"}, 5, expiryOf("acme", s))
		wantStep(t, d, []string{"acme"}, 5, true, api.OK)
		wantLies(t, "another Expires: the session stays", d, rest)
	}
	d := fresh(t, recordsOf("acme", s)[0])
	wantStep(t, d, []string{"acme"}, 5, true, api.OK)
	wantLies(t, "no session", d)
	d = fresh(t, recordsOf("acme", s)[0], recordsOf("acme", s)[2])
	wantStep(t, d, []string{"acme"}, 5, true, api.OK)
	wantLies(t, "no session: the record by user stays", d, recordsOf("acme", s)[2:])
	d = fresh(t, recordsOf("acme", s)[:2]...)
	wantStep(t, d, []string{"acme"}, 5, true, api.OK)
	wantLies(t, "no record by user", d)
	d = fresh(t, append(recordsOf("acm", s)[1:], recordsOf("acme", s)[0])...)
	wantStep(t, d, []string{"acme"}, 5, true, api.OK)
	wantLies(t, "another tenant's session", d, recordsOf("acm", s)[1:])
	d = fresh(t, append(recordsOf("acme", some(2, 5))[1:], recordsOf("acme", s)[0])...)
	wantStep(t, d, []string{"acme"}, 5, true, api.OK)
	wantLies(t, "another one's session", d, recordsOf("acme", some(2, 5))[1:])
	d = fresh(t, api.Pair{Key: expiryKey("acme", 5, s.Token), Value: "more"}, recordsOf("acme", s)[1], recordsOf("acme", s)[2])
	wantStep(t, d, []string{"acme"}, 5, true, api.OK)
	wantLies(t, "a value that a record by expiry has not: its key says it", d)
}

func TestTwoByExpiry(t *testing.T) { // P26.2: a session with two records by expiry
	s, old := some(1, 9), some(1, 5)
	d := fresh(t, append(recordsOf("acme", s), recordsOf("acme", old)[0])...)
	want(t, "Left", sweep.Left(d, []string{"acme"}, 9), 2)
	wantRun(t, d, []string{"acme"}, 8, 9, 1, api.OK)
	wantLies(t, "at 8", d, recordsOf("acme", s))
	wantRun(t, d, []string{"acme"}, 9, 9, 1, api.OK)
	wantLies(t, "at 9", d)
}

func TestNoSession(t *testing.T) { // P26.2: a value that is no session's stays as it is
	for _, s := range []api.Session{some(1, 5), some(1, 0)} {
		good := sessionValue(s)
		for _, value := range []string{"", "x", good[1:], good + "x", "\x00" + good[4:], sessionValue(api.Session{User: "ada", Data: "\xFF", Expires: s.Expires})} {
			rest := []api.Pair{{Key: sessionKey("acme", s.Token), Value: value}, {Key: userKey("acme", s.User, s.Token)}}
			d := fresh(t, append(rest, recordsOf("acme", s)[0])...)
			wantFind(t, d, []string{"acme"}, 5, expiryOf("acme", s))
			wantStep(t, d, []string{"acme"}, 5, true, api.OK)
			wantLies(t, "no session's", d, rest)
			wantNone(t, d, []string{"acme"}, 5)
		}
	}
}

func TestNoExpiry(t *testing.T) { // P26.1: keys that are none's are passed over, though they lie among these
	s := some(1, 5)
	rest := []api.Pair{
		{Key: key("acme", "e")}, {Key: key("acme", "e", numberPart(0))}, {Key: key("acme", "e", numberPart(4), textPart("short"))}, {Key: key("acme", "e", numberPart(5), numberPart(5))}, {Key: expiryKey("acme", 5, s.Token) + textPart("more")}, {Key: expiryKey("acme", 3, s.Token)[:20]}, {Key: key("acme", "e", textPart("5"), textPart(s.Token))},
	}
	d := fresh(t, rest...)
	wantNone(t, d, []string{"acme"}, math.MaxUint64)
	write(t, d, recordsOf("acme", s)...)
	wantFind(t, d, []string{"acme"}, 5, expiryOf("acme", s))
	want(t, "Left", sweep.Left(d, []string{"acme"}, 5), 1)
	wantRun(t, d, []string{"acme"}, 5, 9, 1, api.OK)
	wantLies(t, "they stay", d, rest)
}

func TestOtherRecords(t *testing.T) { // P26.2: all other records stay
	s := some(1, 5)
	rest := []api.Pair{
		{Key: key("acme", "l"), Value: "none"}, {Key: key("acme", "a", numberPart(1)), Value: "none"}, {Key: key("acme", "s", textPart("short")), Value: "x"}, {Key: userKey("acme", "bob", s.Token)}, {Key: userKey("acme", s.User, token(9, 9))}, {Key: "other"},
	}
	rest = append(rest, recordsOf("acm", s)...)
	rest = append(rest, recordsOf("acme-", s)...)
	d := fresh(t, append(rest, recordsOf("acme", s)...)...)
	wantRun(t, d, []string{"acme"}, 5, 9, 1, api.OK)
	wantLies(t, "they stay", d, rest)
}

func TestRun(t *testing.T) { // P26.3: most -1, 0, 1, as many as are left, and more
	for _, most := range []int{math.MinInt, -1, 0, 1, 2, 4, 5, 6, 7, math.MaxInt} {
		var lists [][]api.Pair
		d := fresh(t)
		for i, tenant := range []string{"b", "b", "b", "a", "a"} {
			l := recordsOf(tenant, some(i, uint64(i+1)))
			lists = append(lists, l)
			write(t, d, l...)
		}
		later := recordsOf("a", some(9, 9))
		write(t, d, later...)
		tenants := []string{"b", "a"}
		want(t, "Left", sweep.Left(d, tenants, 8), 5)
		n := max(0, min(most, 5))
		wantRun(t, d, tenants, 8, most, n, api.OK)
		wantLies(t, "the first ones are gone", d, append(lists[n:], later)...)
		want(t, "Left", sweep.Left(d, tenants, 8), 5-n)
		wantRun(t, d, tenants, 8, 9, 5-n, api.OK)
		wantNone(t, d, tenants, 8)
	}
}

func TestNewMemory(t *testing.T) { // R3: tenants that are handed in are not changed
	d := fresh(t, recordsOf("acme", some(1, 5))...)
	l := []string{"b", "acme", "a", "behind"}
	sweep.Find(d, l[:3], 9)
	sweep.Left(d, l[:3], 9)
	sweep.Run(d, l[:3], 9, 9)
	want(t, "tenants", l, []string{"b", "acme", "a", "behind"})
}
