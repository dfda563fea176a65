package record_test

import (
	"slices"
	"sort"
	"strconv"
	"strings"
	"testing"

	"atrium/api"
	"atrium/record"
)

// wantAgree is what Agree tells, and the second telling with it.
func wantAgree(t *testing.T, what string, l []api.Pair, should api.Errno) {
	t.Helper()
	want(t, what, record.Agree(l), should)
	want(t, what+", by the second telling", secondAgree(l), should)
}

// entries is the texts of so many.
func entries(n int) []string {
	var l []string
	for i := range n {
		l = append(l, entryValue(api.Entry{Number: i + 1, Kind: 1 + i%6, Tick: uint64(10 * i), Subject: "s" + strconv.Itoa(i)}))
	}
	return l
}

// some is a tenant's records of some sessions and entries.
func some() keep {
	return keep{
		sessions: []api.Session{{Token: midToken, User: "ada", Data: "x", Expires: 9}, {Token: highToken, User: "ada", Expires: 9}, {Token: lowToken, User: "bob", Data: "é", Expires: 0}},
		entries:  entries(5), next: 7,
	}
}

// several is those of tenants one's Name being the beginning of another's.
func several() map[string]keep {
	return map[string]keep{"acme": some(), "acme-2": some(), "b": {sessions: some().sessions[:1]}, "c": {next: 1}, "d": {entries: entries(1), next: 2}}
}

// ledgerAt is the place of a tenant's ledger in a list.
func ledgerAt(l []api.Pair, tenant string) int {
	return slices.IndexFunc(l, func(p api.Pair) bool { return p.Key == part(tenant)+part("l") })
}

// sorted is a list by rising keys, with one more pair.
func sorted(l []api.Pair, more ...api.Pair) []api.Pair {
	l = append(slices.Clone(l), more...)
	sort.SliceStable(l, func(i, j int) bool { return l[i].Key < l[j].Key })
	return l
}

func TestAgree(t *testing.T) { // P22.4
	wantAgree(t, "nothing", nil, api.OK)
	wantAgree(t, "nothing", []api.Pair{}, api.OK)
	wantAgree(t, "an empty ledger", pairsOf(map[string]keep{"a": {next: 1}}), api.OK)
	wantAgree(t, "another Next", pairsOf(map[string]keep{"a": {next: 1<<64 - 1}}), api.OK)
	wantAgree(t, "sessions without a ledger", pairsOf(map[string]keep{"a": {sessions: some().sessions}}), api.OK)
	wantAgree(t, "one tenant", pairsOf(map[string]keep{"acme": some()}), api.OK)
	wantAgree(t, "several", pairsOf(several()), api.OK)
	many := map[string]keep{}
	for i := range 40 { // as many as one likes
		many["t"+strconv.Itoa(i)] = some()
	}
	wantAgree(t, "many", pairsOf(many), api.OK)
	wantAgree(t, "a long list", pairsOf(map[string]keep{"a": {entries: entries(300), next: 1}}), api.OK)
}

func TestAgreeLeftOut(t *testing.T) { // P22.4: each record
	l := pairsOf(several())
	left := 0
	for i, p := range l {
		at, _ := secondWhere(p.Key)
		should := api.ErrIndex
		if at.Kind == 1 && at.Tenant == "c" { // a ledger that is as if it were not there
			should = api.OK
			left++
		}
		wantAgree(t, "without "+short(p.Key), slices.Delete(slices.Clone(l), i, i+1), should)
	}
	want(t, "may be left out", left, 1)
}

func TestAgreeDoubled(t *testing.T) { // P22.4: each record, and each two that change places
	l := pairsOf(several())
	for i := range l {
		wantAgree(t, "doubled", slices.Insert(slices.Clone(l), i, l[i]), api.ErrIndex)
		wantAgree(t, "doubled at the end", append(slices.Clone(l), l[i]), api.ErrIndex)
		for j := range i {
			swapped := slices.Clone(l)
			swapped[i], swapped[j] = l[j], l[i]
			wantAgree(t, "swapped", swapped, api.ErrIndex)
		}
	}
	back := slices.Clone(l)
	slices.Reverse(back)
	wantAgree(t, "falling", back, api.ErrIndex)
	two := pairsOf(map[string]keep{"a": {next: 1}, "b": {next: 1}})
	wantAgree(t, "two ledgers", two, api.OK)
	slices.Reverse(two)
	wantAgree(t, "two ledgers, falling", two, api.ErrIndex)
	wantAgree(t, "one ledger twice", []api.Pair{two[0], two[0]}, api.ErrIndex)
}

func TestAgreeTurned(t *testing.T) { // P22.4: each byte of each value
	l := pairsOf(map[string]keep{"a": some(), "a-": {sessions: some().sessions[1:], entries: entries(2), next: 1 << 40}})
	told := map[api.Errno]int{}
	for i, p := range l {
		for at := range len(p.Value) {
			for _, turn := range []byte{1, 2, 16, 64, 128, 255} {
				b := []byte(p.Value)
				b[at] ^= turn
				turned := slices.Clone(l)
				turned[i].Value = string(b)
				should := secondAgree(turned)
				want(t, short(p.Key), record.Agree(turned), should)
				told[should]++
			}
		}
	}
	if told[api.OK] == 0 || told[api.ErrRecord] == 0 || told[api.ErrIndex] < 500 || told[api.ErrPlace] > 0 { // a session's Data, a ledger's Next are anything
		t.Errorf("told %v", told)
	}
}

func TestAgreeTurnedKeys(t *testing.T) { // P22.4: each byte of each key
	l := pairsOf(map[string]keep{"a": some(), "ab": {entries: entries(1), next: 1}})
	told := map[api.Errno]int{}
	for i, p := range l {
		for at := range len(p.Key) {
			for _, turn := range []byte{1, 2, 4, 128} {
				b := []byte(p.Key)
				b[at] ^= turn
				turned := slices.Clone(l)
				turned[i].Key = string(b)
				for _, m := range [][]api.Pair{turned, sorted(turned)} {
					should := secondAgree(m)
					want(t, short(p.Key), record.Agree(m), should)
					told[should]++
				}
			}
		}
	}
	if told[api.OK] > 0 || told[api.ErrPlace] < 100 || told[api.ErrIndex] < 100 {
		t.Errorf("told %v", told)
	}
}

func TestAgreePutIn(t *testing.T) { // P22.4: a record more
	l := pairsOf(several())
	for _, p := range []api.Place{
		{Kind: 2, Tenant: "acme", Token: token(1, 2)}, {Kind: 3, Tenant: "acme", User: "ada", Token: lowToken}, {Kind: 3, Tenant: "acme", User: "bob", Token: midToken}, {Kind: 3, Tenant: "acme", User: "ada", Token: token(1, 2)}, {Kind: 3, Tenant: "c", User: "ada", Token: midToken}, {Kind: 3, Tenant: "new", User: "ada", Token: midToken},
		{Kind: 4, Tenant: "acme", Expires: 9, Token: lowToken}, {Kind: 4, Tenant: "acme", Expires: 10, Token: midToken}, {Kind: 4, Tenant: "c", Expires: 9, Token: midToken}, {Kind: 4, Tenant: "new", Expires: 9, Token: midToken}, {Kind: 4, Tenant: "acme", Expires: 0, Token: midToken},
		{Kind: 5, Tenant: "acme", Number: 6}, {Kind: 5, Tenant: "acme", Number: 7}, {Kind: 5, Tenant: "acme", Number: 1<<63 - 1}, {Kind: 5, Tenant: "b", Number: 1}, {Kind: 5, Tenant: "c", Number: 1}, {Kind: 5, Tenant: "new", Number: 1},
	} {
		values := []string{"", sessionValue(api.Session{User: "ada", Expires: 9}), entryValue(api.Entry{Number: p.Number, Kind: 1}), entryValue(api.Entry{Number: 6, Kind: 1})}
		for _, value := range values {
			should := api.ErrRecord
			if secondFits(p, value) {
				should = api.ErrIndex
			}
			wantAgree(t, "put in", sorted(l, api.Pair{Key: keyOf(p), Value: value}), should)
		}
	}
	wantAgree(t, "an empty ledger more", sorted(l, api.Pair{Key: keyOf(api.Place{Kind: 1, Tenant: "new"}), Value: ledgerValue(record.Empty())}), api.OK)
	wantAgree(t, "a ledger more that is not empty", sorted(l, api.Pair{Key: keyOf(api.Place{Kind: 1, Tenant: "new"}), Value: ledgerValue(api.Ledger{Next: 1, Entries: 1, Head: chain(zeros, entries(1)[0])})}), api.ErrIndex)
	wantAgree(t, "another ledger, of the empty list", sorted(l, api.Pair{Key: keyOf(api.Place{Kind: 1, Tenant: "b"}), Value: ledgerValue(api.Ledger{Next: 99, Head: zeros})}), api.OK)
}

func TestAgreeSessions(t *testing.T) { // P22.4: records by user and by expiry of other values
	own := api.Session{Token: midToken, User: "ada", Data: "x", Expires: 9}
	pairs := func(user string, expires uint64, token string) []api.Pair {
		return sorted(nil,
			api.Pair{Key: keyOf(api.Place{Kind: 2, Tenant: "a", Token: midToken}), Value: sessionValue(own)},
			api.Pair{Key: keyOf(api.Place{Kind: 3, Tenant: "a", User: user, Token: token})},
			api.Pair{Key: keyOf(api.Place{Kind: 4, Tenant: "a", Expires: expires, Token: token})},
		)
	}
	wantAgree(t, "as it is", pairs("ada", 9, midToken), api.OK)
	wantAgree(t, "another User", pairs("adb", 9, midToken), api.ErrIndex)
	wantAgree(t, "another Expires", pairs("ada", 8, midToken), api.ErrIndex)
	wantAgree(t, "another Token", pairs("ada", 9, lowToken), api.ErrIndex)
	l := pairsOf(map[string]keep{"a": {sessions: []api.Session{own}}, "b": {sessions: []api.Session{own}}})
	wantAgree(t, "of two", l, api.OK)
	for i, p := range l { // each of one tenant's in the place of another's
		if strings.HasPrefix(p.Key, part("a")) {
			moved := slices.Clone(l)
			moved[i].Key = part("c") + strings.TrimPrefix(p.Key, part("a"))
			wantAgree(t, "another tenant's", sorted(moved), api.ErrIndex)
		}
	}
	crossed := pairsOf(map[string]keep{"a": {sessions: []api.Session{{Token: lowToken, User: "x", Expires: 1}, {Token: midToken, User: "y", Expires: 2}}}})
	wantAgree(t, "two sessions", crossed, api.OK)
	for _, p := range [][2]api.Place{
		{{Kind: 3, Tenant: "a", User: "x", Token: lowToken}, {Kind: 3, Tenant: "a", User: "y", Token: lowToken}}, // both of one Token
		{{Kind: 4, Tenant: "a", Expires: 1, Token: lowToken}, {Kind: 4, Tenant: "a", Expires: 2, Token: lowToken}},
	} {
		other := slices.DeleteFunc(slices.Clone(crossed), func(x api.Pair) bool {
			at, _ := secondWhere(x.Key)
			return at.Kind == p[0].Kind
		})
		wantAgree(t, "crossed", sorted(other, api.Pair{Key: keyOf(p[0])}, api.Pair{Key: keyOf(p[1])}), api.ErrIndex)
	}
}

func TestAgreeEntries(t *testing.T) { // P22.4
	with := func(l api.Ledger, numbers []int, texts []string) []api.Pair {
		var pairs []api.Pair
		for i, n := range numbers {
			pairs = append(pairs, api.Pair{Key: keyOf(api.Place{Kind: 5, Tenant: "a", Number: n}), Value: texts[i]})
		}
		return sorted(pairs, api.Pair{Key: keyOf(api.Place{Kind: 1, Tenant: "a"}), Value: ledgerValue(l)})
	}
	x := entries(4)
	head := zeros
	for _, text := range x[:3] {
		head = chain(head, text)
	}
	three := []int{1, 2, 3}
	wantAgree(t, "three", with(api.Ledger{Next: 1, Entries: 3, Head: head}, three, x[:3]), api.OK)
	for _, n := range []uint64{0, 1, 2, 4, 1 << 32, 1<<64 - 1} {
		wantAgree(t, "another number of Entries", with(api.Ledger{Next: 1, Entries: n, Head: head}, three, x[:3]), api.ErrIndex)
	}
	for i := range 32 { // each byte of the Head
		b := []byte(head)
		b[i] ^= 1
		wantAgree(t, "another Head", with(api.Ledger{Next: 1, Entries: 3, Head: string(b)}, three, x[:3]), api.ErrIndex)
	}
	wantAgree(t, "no Head", with(api.Ledger{Next: 1, Entries: 3, Head: zeros}, three, x[:3]), api.ErrIndex)
	wantAgree(t, "the Head of fewer", with(api.Ledger{Next: 1, Entries: 3, Head: chain(chain(zeros, x[0]), x[1])}, three, x[:3]), api.ErrIndex)
	wantAgree(t, "entries without a ledger", with(api.Ledger{Next: 1, Entries: 3, Head: head}, three, x[:3])[:3], api.ErrIndex)
	wantAgree(t, "a ledger without entries", with(api.Ledger{Next: 1, Entries: 3, Head: head}, nil, nil), api.ErrIndex)
	wantAgree(t, "a Head without entries", with(api.Ledger{Next: 1, Entries: 0, Head: head}, nil, nil), api.ErrIndex)
	wantAgree(t, "Entries without entries", with(api.Ledger{Next: 1, Entries: 3, Head: zeros}, nil, nil), api.ErrIndex)
	for _, numbers := range [][]int{{1, 2, 4}, {1, 3, 4}, {2, 3, 4}, {1, 2, 1<<63 - 1}} { // one left out, with texts that go on, and texts of the keys' Numbers
		var own []string
		head := zeros
		for _, n := range numbers {
			own = append(own, entryValue(api.Entry{Number: n, Kind: 1}))
			head = chain(head, own[len(own)-1])
		}
		wantAgree(t, "one left out", with(api.Ledger{Next: 1, Entries: 3, Head: head}, numbers, own), api.ErrIndex)
		wantAgree(t, "one left out", with(api.Ledger{Next: 1, Entries: uint64(numbers[2]), Head: head}, numbers, own), api.ErrIndex)
		wantAgree(t, "one left out in keys", with(api.Ledger{Next: 1, Entries: 3, Head: chain(chain(chain(zeros, x[0]), x[1]), x[2])}, numbers, x[:3]), api.ErrIndex)
		wantAgree(t, "one left out in texts", with(api.Ledger{Next: 1, Entries: 3, Head: head}, three, own), api.ErrIndex)
	}
	swapped := []string{x[1], x[0], x[2]}
	wantAgree(t, "texts in another order", with(api.Ledger{Next: 1, Entries: 3, Head: chain(chain(chain(zeros, x[1]), x[0]), x[2])}, three, swapped), api.ErrIndex)
	wantAgree(t, "texts in another order, and the Head of the right one", with(api.Ledger{Next: 1, Entries: 3, Head: head}, three, swapped), api.ErrIndex)
}

func TestAgreeOrder(t *testing.T) { // P22.4: keys first, then values, then whether they agree
	l := pairsOf(several())
	wrongKeys := []api.Pair{{Key: ""}, {Key: "x"}, {Key: part("acme")}, {Key: part("Acme") + part("l"), Value: ledgerValue(record.Empty())}, {Key: part("a") + part("a") + num(0), Value: entries(1)[0]}}
	wrongValues := []api.Pair{
		{Key: keyOf(api.Place{Kind: 1, Tenant: "x"}), Value: ""}, {Key: keyOf(api.Place{Kind: 1, Tenant: "x"}), Value: eight(0) + eight(0) + zeros}, {Key: keyOf(api.Place{Kind: 2, Tenant: "x", Token: midToken}), Value: ""}, {Key: keyOf(api.Place{Kind: 3, Tenant: "x", User: "ada", Token: midToken}), Value: "x"},
		{Key: keyOf(api.Place{Kind: 4, Tenant: "x", Token: midToken}), Value: "\x00"}, {Key: keyOf(api.Place{Kind: 5, Tenant: "x", Number: 1}), Value: ""}, {Key: keyOf(api.Place{Kind: 5, Tenant: "x", Number: 1}), Value: "\x00\x01\x01\x00"},
	}
	falling := slices.Clone(l)
	slices.Reverse(falling)
	for _, rest := range [][]api.Pair{nil, l, falling, l[1:]} {
		for _, value := range wrongValues {
			wantAgree(t, "a wrong value ahead", append([]api.Pair{value}, rest...), api.ErrRecord)
			wantAgree(t, "a wrong value behind", append(slices.Clone(rest), value), api.ErrRecord)
			for _, key := range wrongKeys {
				wantAgree(t, "a wrong key ahead", append([]api.Pair{key}, rest...), api.ErrPlace)
				wantAgree(t, "a wrong key behind", append(slices.Clone(rest), key), api.ErrPlace)
				wantAgree(t, "a wrong key behind a wrong value", append([]api.Pair{value, key}, rest...), api.ErrPlace)
				wantAgree(t, "a wrong value behind a wrong key", append([]api.Pair{key, value}, rest...), api.ErrPlace)
				wantAgree(t, "far behind", append(append([]api.Pair{value}, rest...), key), api.ErrPlace)
			}
		}
	}
}

func TestTenantsAndSplit(t *testing.T) { // P22.7
	wantSplit(t, nil, nil, nil)
	wantSplit(t, []api.Pair{{Key: "x"}, {Key: ""}}, nil, nil)
	l := pairsOf(several())
	wantSplit(t, l, []string{"acme", "acme-2", "b", "c", "d"}, nil)
	falling := slices.Clone(l)
	slices.Reverse(falling)
	wantSplit(t, falling, []string{"acme", "acme-2", "b", "c", "d"}, nil)
	doubled := append(slices.Clone(falling), l...)
	wantSplit(t, doubled, []string{"acme", "acme-2", "b", "c", "d"}, nil)
	mixed := []api.Pair{
		{Key: part("b") + part("l"), Value: "1"}, {Key: "none"}, {Key: part("a") + part("l"), Value: "2"}, {Key: part("A") + part("l"), Value: "3"}, {Key: part("b") + part("s") + part(midToken), Value: "4"}, {Key: part("b") + part("l"), Value: "5"}, {Key: part("c")}, {Key: part("a-") + part("a") + num(1), Value: "6"},
	}
	wantSplit(t, mixed, []string{"a", "a-", "b"}, [][]api.Pair{{mixed[2]}, {mixed[7]}, {mixed[0], mixed[4], mixed[5]}}) // values are not looked at
}

// wantSplit is what Tenants tells, and Split (nil: what the second reader finds).
func wantSplit(t *testing.T, l []api.Pair, names []string, groups [][]api.Pair) {
	t.Helper()
	if got := record.Tenants(l); !slices.Equal(got, names) {
		t.Errorf("Tenants: %v, not %v", got, names)
	}
	if groups == nil {
		for _, name := range names {
			groups = append(groups, slices.DeleteFunc(slices.Clone(l), func(p api.Pair) bool {
				at, is := secondWhere(p.Key)
				return !is || at.Tenant != name
			}))
		}
	}
	got := record.Split(l)
	want(t, "groups", len(got), len(groups))
	for i := range min(len(got), len(groups)) {
		if !slices.Equal(got[i], groups[i]) {
			t.Errorf("Split, %d: %q, not %q", i, got[i], groups[i])
		}
	}
}

func TestSplitApart(t *testing.T) { // R3: what is told is new, and parts share nothing
	l := pairsOf(several())
	before := slices.Clone(l)
	groups := record.Split(l)
	for i := range groups {
		group := slices.Clone(groups[i])
		for j := range groups {
			if j != i {
				_ = append(groups[j], api.Pair{Key: "room"}, api.Pair{Key: "room"})
				for n := range groups[j] {
					groups[j][n].Value = "turned"
				}
			}
		}
		want(t, "a group", slices.Equal(groups[i], group), true)
	}
	names := record.Tenants(l)
	names[0] = "turned"
	want(t, "the list", slices.Equal(l, before), true)
	want(t, "again", record.Tenants(l)[0], "acme")
	room := append(slices.Clone(l), api.Pair{Key: "room"})
	want(t, "Agree", record.Agree(room[:len(l)]), api.OK)
	want(t, "the room", room[len(l)].Key, "room")
	want(t, "the list", slices.Equal(room[:len(l)], before), true)
}
