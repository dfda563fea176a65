package record_test

import (
	"math/rand"
	"slices"
	"strings"
	"testing"

	"atrium/api"
	"atrium/record"
)

// anyOne is one of some.
func anyOne[T any](r *rand.Rand, l ...T) T {
	return l[r.Intn(len(l))]
}

// anyKeep is a tenant's records that agree.
func anyKeep(r *rand.Rand) keep {
	var k keep
	for i := range r.Intn(4) {
		k.sessions = append(k.sessions, api.Session{Token: token(uint64(i), r.Uint64()>>r.Intn(64)), User: anyOne(r, "ada", "bob", "é"), Data: strings.Repeat("d", r.Intn(4)), Expires: r.Uint64() >> r.Intn(64)})
	}
	for i := range r.Intn(4) {
		k.entries = append(k.entries, entryValue(api.Entry{Number: i + 1, Kind: 1 + r.Intn(9), Tick: r.Uint64() >> r.Intn(64), Subject: strings.Repeat("\xFF", r.Intn(3))}))
	}
	if len(k.entries) > 0 || r.Intn(2) == 0 {
		k.next = 1 + r.Uint64()>>1
	}
	return k
}

// anyPairs is records that agree, or that differ from such in some places.
func anyPairs(r *rand.Rand) []api.Pair {
	all := map[string]keep{}
	for _, tenant := range []string{"a", "a-", "ab", "b"}[:r.Intn(5)] {
		all[tenant] = anyKeep(r)
	}
	l := pairsOf(all)
	for range r.Intn(3) {
		if len(l) == 0 {
			break
		}
		i, j := r.Intn(len(l)), r.Intn(len(l))
		switch r.Intn(8) {
		case 0:
			l = slices.Delete(l, i, i+1)
		case 1:
			l = slices.Insert(l, i, l[j])
		case 2:
			l[i], l[j] = l[j], l[i]
		case 3:
			l[i].Value, l[j].Value = l[j].Value, l[i].Value
		case 4:
			l[i].Value = turned(r, l[i].Value)
		case 5:
			l[i].Key = turned(r, l[i].Key)
			l = sorted(l)
		case 6:
			l = sorted(l, api.Pair{Key: keyOf(anyPlace(r))})
		case 7:
			l = sorted(l, l[j])
		}
	}
	return l
}

// turned is a text with a byte turned, put in or left out.
func turned(r *rand.Rand, s string) string {
	if s == "" {
		return anyOne(r, "", "\x00", "x")
	}
	i := r.Intn(len(s))
	return s[:i] + anyOne(r, "", "\x00", "\x01", "\x02", "\xFF", "a", "-") + s[i+r.Intn(2):]
}

func anyPlace(r *rand.Rand) api.Place {
	return places(anyOne(r, "a", "a-", "b", "A", ""), anyOne(r, "ada", "é", "", "\x00", "\xFF"), anyOne(r, lowToken, midToken, highToken, "", lowToken[1:], token(r.Uint64(), r.Uint64())), r.Uint64()>>r.Intn(64), int(r.Uint64()>>r.Intn(64)))[r.Intn(5)]
}

func TestAgreePlays(t *testing.T) { // P22.4, P22.7: against the second telling
	r := rand.New(rand.NewSource(220))
	told := map[api.Errno]int{}
	for range 2000 {
		l := anyPairs(r)
		should := secondAgree(l)
		told[should]++
		if got := record.Agree(l); got != should {
			t.Errorf("Agree of %q: %d, not %d", l, got, should)
		}
		names := map[string]int{}
		for _, p := range l {
			want(t, "Show", record.Show(p), secondShow(p))
			if at, is := secondWhere(p.Key); is {
				names[at.Tenant]++
			}
		}
		var rising []string
		for name := range names {
			rising = append(rising, name)
		}
		slices.Sort(rising)
		wantSplit(t, l, rising, nil)
		for i, group := range record.Split(l) {
			want(t, "a group", len(group), names[rising[i]])
			if should == api.OK { // what agrees agrees tenant by tenant
				want(t, "one tenant", record.Agree(group), api.OK)
			}
		}
	}
	for _, e := range []api.Errno{api.OK, api.ErrPlace, api.ErrRecord, api.ErrIndex} {
		if told[e] < 100 {
			t.Errorf("told: %v", told)
		}
	}
}

func TestKeyPlays(t *testing.T) { // P22.1, P22.5: places of whatever parts, and any bytes
	r := rand.New(rand.NewSource(221))
	is := 0
	for range 20000 {
		p := anyPlace(r)
		key := keyOf(p)
		if q, ok := secondWhere(key); ok && q == p {
			is++
			wantPlace(t, p)
		} else {
			wantNoPlace(t, p)
		}
		key = turned(r, key)
		if q, ok := secondWhere(key); ok {
			wantPlace(t, q)
			want(t, "the key", keyOf(q), key)
		} else {
			wantNowhere(t, key)
		}
		b := make([]byte, r.Intn(20))
		r.Read(b)
		wantNowhere(t, string(b))
	}
	if is < 4000 || is > 16000 {
		t.Errorf("%d are keys", is)
	}
}

func TestValuePlays(t *testing.T) { // P22.3, P22.5: any bytes, and values that are turned
	r := rand.New(rand.NewSource(222))
	is := 0
	for range 20000 {
		s := anyOne(r, ledgerValue(api.Ledger{Next: r.Uint64() >> r.Intn(64), Entries: r.Uint64(), Head: zeros}), sessionValue(api.Session{User: anyOne(r, "ada", "é", ""), Data: strings.Repeat("d", r.Intn(600)), Expires: r.Uint64()}), entryValue(api.Entry{Number: int(r.Uint64() >> r.Intn(64)), Kind: int(r.Uint64() >> r.Intn(64)), Tick: r.Uint64(), Subject: strings.Repeat("s", r.Intn(140))}))
		for range r.Intn(3) {
			s = turned(r, s)
		}
		if r.Intn(8) == 0 {
			b := make([]byte, r.Intn(60))
			r.Read(b)
			s = string(b)
		}
		l, e := record.DecodeLedger(s)
		want(t, "a ledger", e == api.OK, secondFits(api.Place{Kind: 1}, s))
		if e == api.OK {
			wantValue(t, l, s, record.EncodeLedger, record.DecodeLedger)
			is++
		}
		should, ok := secondSession(midToken, s)
		if ok {
			wantValue(t, should, s, record.EncodeSession, with(midToken))
			is++
		} else {
			wantNoRecord(t, s, with(midToken))
		}
		x, ok := secondEntry(s)
		if ok {
			wantValue(t, x, s, record.EncodeEntry, record.DecodeEntry)
			is++
		} else {
			wantNoRecord(t, s, record.DecodeEntry)
		}
	}
	if is < 4000 || is > 19000 {
		t.Errorf("%d are values", is)
	}
}
