package cred_test

import (
	"math/rand"
	"strings"
	"testing"

	"atrium/api"
	"atrium/cred"
)

// pickOne is one of some texts.
func pickOne(r *rand.Rand, l ...string) string {
	return l[r.Intn(len(l))]
}

// anyTenant is one that may be, mostly.
func anyTenant(r *rand.Rand) api.Tenant {
	x := api.Tenant{Name: pickOne(r, "a", "b", "c-", "0", "acme", "acme-2", strings.Repeat("z", 32)) + pickOne(r, "", "", "1", "2", "3", "-"), Key: pickOne(r, "k", "one", "two", strings.Repeat("\x00", 64), "\xFF"), Quota: r.Intn(1<<20 + 1)}
	switch r.Intn(40) {
	case 0:
		x.Name = pickOne(r, "", "A", "a.b", "a\x00", "é")
	case 1:
		x.Key = pickOne(r, "", strings.Repeat("k", 65))
	case 2:
		x.Quota = []int{-1, 1<<20 + 1, -1 << 63, 1<<63 - 1}[r.Intn(4)]
	}
	return x
}

// anyText is a credential of one of a list, or nearly, or of another.
func anyText(r *rand.Rand, l []api.Tenant) string {
	x := anyTenant(r)
	if len(l) > 0 && r.Intn(4) > 0 {
		x = l[r.Intn(len(l))]
	}
	s, _ := second(x)
	if s != "" && r.Intn(3) == 0 {
		i := r.Intn(len(s))
		s = s[:i] + pickOne(r, "", ".", "0", "a", "A", " ") + s[i+r.Intn(2):]
	}
	return s
}

func TestPlays(t *testing.T) { // P21.1, P21.2, P21.4: against the second telling
	r := rand.New(rand.NewSource(211))
	told := map[api.Errno]int{}
	for range 6000 {
		var l []api.Tenant
		for range r.Intn(7) {
			l = append(l, anyTenant(r))
		}
		want(t, "Check", cred.Check(l) == api.OK, secondList(l))
		s := anyText(r, l)
		place, should := secondPlace(l, s)
		told[should]++
		if should == api.OK {
			wantPlace(t, l, s, place)
			continue
		}
		i, e := cred.Verify(l, s)
		want(t, "Verify", i, 0)
		want(t, "Verify", e, should)
		i, e = cred.Who(l, []string{"bearer " + s})
		want(t, "Who", i, 0)
		want(t, "Who", e, should)
	}
	if told[api.OK] < 800 || told[api.ErrCred] < 800 || told[api.ErrArg] < 800 {
		t.Errorf("told: %v", told)
	}
}

func TestAnyValues(t *testing.T) { // P21.2: bytes of whatever kind
	r := rand.New(rand.NewSource(212))
	is := 0
	for range 40000 {
		value := pickOne(r, "", "b", "Bearer", "bearer", "BEARER") + pickOne(r, "", " ", "  ", "\t", "x") + pickOne(r, "", "x", " ", "a.b", "\x00")
		if r.Intn(4) == 0 {
			b := make([]byte, r.Intn(12))
			r.Read(b)
			value = string(b)
		}
		if len(value) > 7 && strings.EqualFold(value[:7], "bearer ") {
			wantBearer(t, value, value[7:])
			is++
		} else {
			wantNoBearer(t, value)
		}
	}
	if is < 3000 {
		t.Errorf("%d have a credential", is)
	}
}
