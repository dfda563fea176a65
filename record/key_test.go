package record_test

import (
	"math"
	"strings"
	"testing"

	"atrium/api"
	"atrium/record"
)

func TestExample(t *testing.T) {
	key, e := record.LedgerKey("acme")
	want(t, "LedgerKey", key, "\x02\x61\x63\x6d\x65\x00\x02\x6c\x00")
	want(t, "LedgerKey", e, api.OK)
	key, e = record.AuditKey("acme", 1)
	want(t, "AuditKey", key, "\x02\x61\x63\x6d\x65\x00\x02\x61\x00\x01\x00\x00\x00\x00\x00\x00\x00\x01")
	want(t, "AuditKey", e, api.OK)
}

// Tokens of which tests are made.
const (
	lowToken  = "AAAAAAAAAAAAAAAAAAAAAA"
	midToken  = "AAAAAAAAAAcAAAAAAAAACQ"
	highToken = "_____________________w"
)

// places is a place of each kind, told by its parts.
func places(tenant, user, token string, expires uint64, number int) []api.Place {
	return []api.Place{
		{Kind: 1, Tenant: tenant}, {Kind: 2, Tenant: tenant, Token: token}, {Kind: 3, Tenant: tenant, User: user, Token: token}, {Kind: 4, Tenant: tenant, Expires: expires, Token: token}, {Kind: 5, Tenant: tenant, Number: number},
	}
}

func TestKinds(t *testing.T) { // P22.1: the numbers of kinds
	for i, kind := range []int{api.PlaceLedger, api.PlaceSession, api.PlaceUser, api.PlaceExpiry, api.PlaceAudit} {
		want(t, "a kind", kind, i+1)
	}
}

func TestKeysWrittenOut(t *testing.T) { // P22.1
	for i, should := range []string{
		"\x02a-1\x00\x02l\x00",
		"\x02a-1\x00\x02s\x00\x02AAAAAAAAAAcAAAAAAAAACQ\x00",
		"\x02a-1\x00\x02u\x00\x02ada\x00\x02AAAAAAAAAAcAAAAAAAAACQ\x00",
		"\x02a-1\x00\x02e\x00\x01\x00\x00\x00\x00\x00\x00\x01\x02\x02AAAAAAAAAAcAAAAAAAAACQ\x00",
		"\x02a-1\x00\x02a\x00\x01\x00\x00\x00\x00\x00\x01\x00\x00",
	} {
		p := places("a-1", "ada", midToken, 258, 65536)[i]
		want(t, "the second telling", keyOf(p), should)
		wantPlace(t, p)
	}
}

func TestTenantParts(t *testing.T) { // P22.1: each byte, and each length, in each kind
	wantTenant := func(tenant string, may bool) {
		t.Helper()
		for _, p := range places(tenant, "ada", midToken, 9, 7) {
			if may {
				wantPlace(t, p)
			} else {
				wantNoPlace(t, p)
			}
		}
	}
	for b := range 256 {
		c := one(b)
		may := strings.Contains("abcdefghijklmnopqrstuvwxyz0123456789-", c)
		for _, tenant := range []string{c, "a" + c, c + "a", "a" + c + "b"} {
			wantTenant(tenant, may)
		}
	}
	for n := range 70 {
		wantTenant(strings.Repeat("n", n), n >= 1 && n <= 32)
	}
	for _, tenant := range []string{"Acme", "a.b", " a", "a\n", "é", strings.Repeat("x", 100000)} {
		wantTenant(tenant, false)
	}
}

func TestTokenParts(t *testing.T) { // P22.1
	wantToken := func(token string, may bool) {
		t.Helper()
		for _, p := range places("acme", "ada", token, 9, 7)[1:4] {
			if may {
				wantPlace(t, p)
			} else {
				wantNoPlace(t, p)
			}
		}
	}
	for _, s := range []string{lowToken, midToken, highToken, token(0, 1), token(1, 0), token(math.MaxUint64, 0), token(0, math.MaxUint64)} {
		wantToken(s, true)
	}
	for _, s := range []string{"", "A", lowToken[:21], lowToken + "A", lowToken + "=", lowToken[:21] + "B", lowToken[:21] + "/", lowToken[:21] + "\x00", "+" + lowToken[1:], " " + lowToken[1:], "\n" + lowToken, strings.Repeat("é", 11), strings.Repeat("A", 10000)} {
		wantToken(s, false)
	}
	for b := range 256 { // each byte at the first, a middle and the last place
		c := one(b)
		letter := strings.Contains("ABCDEFGHIJKLMNOPQRSTUVWXYZabcdefghijklmnopqrstuvwxyz0123456789-_", c)
		wantToken(c+lowToken[1:], letter)
		wantToken(lowToken[:9]+c+lowToken[10:], letter)
		wantToken(lowToken[:21]+c, strings.Contains("AQgw", c))
	}
}

func TestUserParts(t *testing.T) { // P22.1
	wantUser := func(user string, may bool) {
		t.Helper()
		p := api.Place{Kind: 3, Tenant: "acme", User: user, Token: midToken}
		if may {
			wantPlace(t, p)
		} else {
			wantNoPlace(t, p)
			from, to, e := record.Users("acme", user)
			if from != "" || to != "" || e != api.ErrPlace {
				t.Errorf("Users of %s: %s, %s, %d", short(user), short(from), short(to), e)
			}
		}
	}
	for b := range 256 {
		wantUser(one(b), b >= 32 && b < 127)
		wantUser("a"+one(b)+"b", b >= 32 && b < 127)
	}
	for n := range 140 {
		wantUser(strings.Repeat("u", n), n >= 1 && n <= 64)
	}
	for _, user := range []string{"ada", " ", "é", "日本", "\U0001F600", "a b", `"`, `\`, "ada.lovelace@example.com", strings.Repeat("é", 32), "\uFFFD", "A", midToken, "\u00A0"} {
		wantUser(user, true)
	}
	for _, user := range []string{"", "\x00", "a\x00", "a\x00b", "\n", "\x7F", "\u0080", "\u009F", "\u2028", "\u2029", "\uFEFF", "\xFF", "\xC3", "a\xC3", "\xED\xA0\x80", strings.Repeat("é", 33), strings.Repeat("u", 65), strings.Repeat("u", 100000)} {
		wantUser(user, false)
	}
}

func TestNumberParts(t *testing.T) { // P22.1, P22.5: Expires and Numbers at the ends of their ranges
	for _, n := range []uint64{0, 1, 2, 9, 255, 256, math.MaxUint32, math.MaxInt64, 1 << 63, math.MaxUint64 - 1, math.MaxUint64} {
		wantPlace(t, api.Place{Kind: 4, Tenant: "acme", Expires: n, Token: midToken})
	}
	for _, n := range []int{1, 2, 9, 255, 256, math.MaxInt32, math.MaxUint32, math.MaxInt - 1, math.MaxInt} {
		wantPlace(t, api.Place{Kind: 5, Tenant: "acme", Number: n})
	}
	for _, n := range []int{0, -1, -2, math.MinInt32, math.MinInt, math.MinInt + 1} {
		wantNoPlace(t, api.Place{Kind: 5, Tenant: "acme", Number: n})
	}
	for _, n := range []uint64{0, 1 << 63, 1<<63 + 1, 1<<64 - 1} {
		wantNowhere(t, part("acme")+part("a")+num(n))
	}
}

func TestNoKeys(t *testing.T) { // P22.1
	for _, p := range places("acme", "ada", midToken, 9, 7) {
		key := keyOf(p)
		wantPlace(t, p)
		for i := range len(key) { // cut off, and begun later
			wantNowhere(t, key[:i])
			if i > 0 {
				wantNowhere(t, key[i:])
			}
		}
		for b := range 256 { // a byte behind, a byte ahead
			wantNowhere(t, key+one(b))
			wantNowhere(t, one(b)+key)
		}
		for _, more := range []string{part(""), part("x"), part(midToken), num(0), num(1), part("l")} { // a part more
			wantNowhere(t, key+more)
			wantNowhere(t, more+key)
		}
		wantNowhere(t, key+key)
		wantNowhere(t, strings.Repeat(key, 5)) // more parts than a key may have
	}
}

func TestLetters(t *testing.T) { // P22.1: each letter with the parts of each kind
	letters := map[string]int{"l": 1, "s": 2, "u": 3, "e": 4, "a": 5}
	for b := range 256 {
		for _, letter := range []string{one(b), one(b) + "s", "s" + one(b)} {
			for _, p := range places("acme", "ada", midToken, 9, 7) {
				key := strings.Replace(keyOf(p), part(string("lsuea"[p.Kind-1])), part(letter), 1)
				if letters[letter] == p.Kind {
					wantPlace(t, p)
				} else {
					wantNowhere(t, key)
				}
			}
		}
	}
	for _, behind := range []string{"", part(midToken), num(1)} { // a number, and nothing, in the letter's place
		wantNowhere(t, part("acme")+num(0)+behind)
		wantNowhere(t, part("acme")+num('l')+behind)
		wantNowhere(t, part("acme")+part("")+behind)
		wantNowhere(t, num(0)+part("l")+behind)
		wantNowhere(t, part("")+part("l")+behind)
	}
}

func TestOtherParts(t *testing.T) { // P22.1: parts of another kind, more or fewer
	some := []string{"", part(""), part("ada"), part(midToken), part("acme"), num(0), num(1), num(9), num(math.MaxUint64)}
	for _, letter := range []string{"l", "s", "u", "e", "a", "x", ""} {
		for _, x := range some {
			for _, y := range some {
				for _, z := range some {
					key := part("acme") + part(letter) + x + y + z
					should, is := secondWhere(key)
					p, e := record.Where(key)
					want(t, short(key), p, should)
					want(t, short(key), e == api.OK, is)
				}
			}
		}
	}
	wantNowhere(t, part("acme")+part("e")+part("1234567")+part(midToken)) // a text of as many bytes as a number
	wantNowhere(t, part("acme")+part("a")+part("1234567"))
	wantNowhere(t, "")
	wantNowhere(t, part("acme"))
	wantNowhere(t, part("l"))
	wantNowhere(t, strings.Repeat("\x02\x00", 1000))
	wantNowhere(t, strings.Repeat("\x02", 100000))
}

func TestTurnedKeys(t *testing.T) { // P22.1, P22.5: against the second reader
	is := 0
	for _, p := range places("a-2", "é", midToken, 1<<40+2, 1<<56+3) {
		turns(keyOf(p), func(key string) {
			q, ok := secondWhere(key)
			if !ok {
				wantNowhere(t, key)
				return
			}
			is++
			wantPlace(t, q)
			want(t, "the key", keyOf(q), key)
		})
	}
	if is < 5000 {
		t.Errorf("%d are keys", is)
	}
}
