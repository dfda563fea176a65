package record_test

import (
	"math"
	"math/rand"
	"sort"
	"strings"
	"testing"

	"atrium/api"
	"atrium/record"
)

// tenants is Names of which some are the beginnings of others, and some stand just beside them.
func tenants() []string {
	return []string{"acme", "acm", "acme-", "acme-2", "acme0", "acmea", "acmd", "acmf", "a", "-", "0", "z", "acme" + strings.Repeat("z", 28), strings.Repeat("-", 32), "s", "l", "e", "u"}
}

// everyPlace is places of all tenants and kinds, with parts at the ends and beside one another.
func everyPlace() []api.Place {
	var l []api.Place
	for _, tenant := range tenants() {
		l = append(l, api.Place{Kind: 1, Tenant: tenant})
		for _, token := range []string{lowToken, token(0, 1), midToken, highToken} {
			l = append(l, api.Place{Kind: 2, Tenant: tenant, Token: token})
			for _, user := range []string{"ada", "ad", "ada ", "adaa", "ada\U0010FFFF", "adb", "adA", " ", "~", "\U0010FFFF", strings.Repeat("u", 64), "é", "s", token} {
				l = append(l, api.Place{Kind: 3, Tenant: tenant, User: user, Token: token})
			}
			for _, n := range ticks() {
				l = append(l, api.Place{Kind: 4, Tenant: tenant, Expires: n, Token: token})
			}
		}
		for _, n := range []int{1, 2, 3, 8, 9, 10, 255, 256, 257, math.MaxInt32, math.MaxInt - 1, math.MaxInt} {
			l = append(l, api.Place{Kind: 5, Tenant: tenant, Number: n})
		}
	}
	return l
}

func ticks() []uint64 {
	return []uint64{0, 1, 2, 8, 9, 10, 255, 256, 257, 65535, 65536, math.MaxUint32, 1 << 32, math.MaxInt64, 1 << 63, math.MaxUint64 - 1, math.MaxUint64}
}

// wantRange is that just those of all places have their keys in a range of which one tells so.
func wantRange(t *testing.T, what, from, to string, e api.Errno, all []api.Place, in func(api.Place) bool) {
	t.Helper()
	want(t, what, e, api.OK)
	for _, p := range all {
		key := keyOf(p)
		if got := key >= from && key < to; got != in(p) {
			t.Errorf("%s: %+v is in it: %v", what, p, got)
		}
	}
}

func TestSessions(t *testing.T) { // P22.2, P22.6
	all := everyPlace()
	for _, tenant := range tenants() {
		from, to, e := record.Sessions(tenant)
		wantRange(t, "Sessions of "+tenant, from, to, e, all, func(p api.Place) bool { return p.Kind == 2 && p.Tenant == tenant })
	}
}

func TestUsers(t *testing.T) { // P22.2, P22.6
	all := everyPlace()
	for _, tenant := range tenants() {
		for _, user := range []string{"ada", "ad", "ada ", "adaa", "adb", " ", "\U0010FFFF", strings.Repeat("u", 64), "é", "nobody", lowToken} {
			from, to, e := record.Users(tenant, user)
			wantRange(t, "Users of "+tenant+" "+user, from, to, e, all, func(p api.Place) bool { return p.Kind == 3 && p.Tenant == tenant && p.User == user })
		}
	}
}

func TestExpired(t *testing.T) { // P22.2, P22.6
	all := everyPlace()
	for _, tenant := range tenants() {
		for _, until := range append(ticks(), 7, 300, 1<<62) {
			from, to, e := record.Expired(tenant, until)
			wantRange(t, "Expired of "+tenant, from, to, e, all, func(p api.Place) bool { return p.Kind == 4 && p.Tenant == tenant && p.Expires <= until })
		}
	}
}

func TestAudits(t *testing.T) { // P22.2, P22.6
	all := everyPlace()
	for _, tenant := range tenants() {
		for _, number := range []int{math.MinInt, -2, -1, 0, 1, 2, 3, 5, 9, 10, 256, 300, math.MaxInt32, math.MaxInt - 1, math.MaxInt} {
			from, to, e := record.Audits(tenant, number)
			wantRange(t, "Audits of "+tenant, from, to, e, all, func(p api.Place) bool { return p.Kind == 5 && p.Tenant == tenant && p.Number >= number })
		}
	}
}

func TestNoRanges(t *testing.T) { // P22.2
	refused := func(what, from, to string, e api.Errno) {
		t.Helper()
		if from != "" || to != "" || e != api.ErrPlace {
			t.Errorf("%s: %s, %s, %d", what, short(from), short(to), e)
		}
	}
	for _, tenant := range []string{"", "Acme", "a.b", "a b", "é", "a\x00", "\xFF", strings.Repeat("n", 33)} {
		from, to, e := record.Sessions(tenant)
		refused("Sessions", from, to, e)
		for _, user := range []string{"ada", "", "\x00"} {
			from, to, e = record.Users(tenant, user)
			refused("Users", from, to, e)
		}
		for _, n := range ticks() {
			from, to, e = record.Expired(tenant, n)
			refused("Expired", from, to, e)
		}
		for _, n := range []int{math.MinInt, -1, 0, 1, math.MaxInt} {
			from, to, e = record.Audits(tenant, n)
			refused("Audits", from, to, e)
		}
	}
	for _, user := range []string{"", "\x00", "a\n", "\xFF", "\uFEFF", strings.Repeat("u", 65)} {
		from, to, e := record.Users("acme", user)
		refused("Users", from, to, e)
	}
}

func TestExpiryOrder(t *testing.T) { // P22.6: by Expires, whatever the tokens
	r := rand.New(rand.NewSource(22))
	var l []api.Place
	for range 2000 {
		l = append(l, api.Place{Kind: 4, Tenant: "acme", Expires: r.Uint64() >> r.Intn(64), Token: token(r.Uint64(), r.Uint64())})
	}
	sort.Slice(l, func(i, j int) bool {
		a, _ := made(l[i])
		b, _ := made(l[j])
		return a < b
	})
	for i := 1; i < len(l); i++ {
		if l[i-1].Expires > l[i].Expires {
			t.Errorf("%d stands ahead of %d", l[i-1].Expires, l[i].Expires)
		}
	}
}

func TestEntryOrder(t *testing.T) { // P22.2: entries stand by their Numbers
	last := ""
	for n := 1; n < 3000; n++ {
		key, _ := record.AuditKey("acme", n)
		if key <= last {
			t.Errorf("%d stands ahead", n)
		}
		last = key
	}
}
