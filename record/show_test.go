package record_test

import (
	"math"
	"strings"
	"testing"

	"atrium/api"
	"atrium/record"
)

// wantShow is the line of a pair, and that the second telling says so, too.
func wantShow(t *testing.T, p api.Pair, should string) {
	t.Helper()
	want(t, "Show of "+short(p.Key), record.Show(p), should)
	want(t, "the second telling of "+short(p.Key), secondShow(p), should)
}

func TestShow(t *testing.T) { // P22.7: written out
	at := places("acme", "ada", midToken, 9, 7)
	wantShow(t, api.Pair{Key: keyOf(at[0]), Value: ledgerValue(api.Ledger{Next: 3, Entries: 5, Head: strings.Repeat("\xAB", 32)})}, "acme ledger next 3 entries 5 head abababababababababababababababababababababababababababababababab")
	wantShow(t, api.Pair{Key: keyOf(at[1]), Value: sessionValue(api.Session{User: "ada", Data: "x y", Expires: 9})}, `acme session AAAAAAAAAAcAAAAAAAAACQ user "ada" data "x y" expires 9`)
	wantShow(t, api.Pair{Key: keyOf(at[2])}, `acme user "ada" token AAAAAAAAAAcAAAAAAAAACQ`)
	wantShow(t, api.Pair{Key: keyOf(at[3])}, `acme expires 9 token AAAAAAAAAAcAAAAAAAAACQ`)
	wantShow(t, api.Pair{Key: keyOf(at[4]), Value: entryValue(api.Entry{Number: 7, Kind: 2, Tick: 300, Subject: "s"})}, `acme audit 7 kind 2 tick 300 subject "s"`)
}

func TestShowEnds(t *testing.T) { // P22.7: the ends of numbers, and empty texts
	const top = "18446744073709551615"
	at := places("-", "é", lowToken, math.MaxUint64, math.MaxInt)
	wantShow(t, api.Pair{Key: keyOf(at[0]), Value: ledgerValue(api.Ledger{Next: math.MaxUint64, Entries: math.MaxUint64, Head: zeros})}, "- ledger next "+top+" entries "+top+" head "+strings.Repeat("0", 64))
	wantShow(t, api.Pair{Key: keyOf(at[0]), Value: ledgerValue(record.Empty())}, "- ledger next 1 entries 0 head "+strings.Repeat("0", 64))
	wantShow(t, api.Pair{Key: keyOf(at[1]), Value: sessionValue(api.Session{User: "é", Expires: math.MaxUint64})}, `- session AAAAAAAAAAAAAAAAAAAAAA user "\xc3\xa9" data "" expires `+top)
	wantShow(t, api.Pair{Key: keyOf(at[1]), Value: sessionValue(api.Session{User: `"\`, Data: "\n\t\x00"})}, `- session AAAAAAAAAAAAAAAAAAAAAA user "\"\\" data "\x0a\x09\x00" expires 0`)
	wantShow(t, api.Pair{Key: keyOf(at[2])}, `- user "\xc3\xa9" token AAAAAAAAAAAAAAAAAAAAAA`)
	wantShow(t, api.Pair{Key: keyOf(at[3])}, `- expires `+top+` token AAAAAAAAAAAAAAAAAAAAAA`)
	wantShow(t, api.Pair{Key: keyOf(at[4]), Value: entryValue(api.Entry{Number: math.MaxInt, Kind: math.MaxInt, Tick: math.MaxUint64})}, `- audit 9223372036854775807 kind 9223372036854775807 tick `+top+` subject ""`)
	wantShow(t, api.Pair{Key: keyOf(at[4]), Value: entryValue(api.Entry{Number: 1, Kind: 2})}, `- audit 1 kind 2 tick 0 subject ""`) // the text's Number, not the key's
}

func TestShowBytes(t *testing.T) { // P22.7: each byte quoted, in a Subject and in what is no key
	for b := range 256 {
		quoted := one(b)
		switch {
		case b == 34 || b == 92:
			quoted = `\` + quoted
		case b < 32 || b > 126:
			quoted = `\x` + string("0123456789abcdef"[b/16]) + string("0123456789abcdef"[b%16])
		}
		key := keyOf(api.Place{Kind: 5, Tenant: "a", Number: 1})
		wantShow(t, api.Pair{Key: key, Value: entryValue(api.Entry{Number: 1, Kind: 1, Subject: "<" + one(b) + ">"})}, `a audit 1 kind 1 tick 0 subject "<`+quoted+`>"`)
		wantShow(t, api.Pair{Key: "<" + one(b) + ">", Value: "x"}, `? "<`+quoted+`>"`)
		if b < 128 {
			wantShow(t, api.Pair{Key: keyOf(api.Place{Kind: 2, Tenant: "a", Token: lowToken}), Value: sessionValue(api.Session{User: "u", Data: one(b) + one(b)})}, `a session `+lowToken+` user "u" data "`+quoted+quoted+`" expires 0`)
		}
		if b >= 32 && b < 127 {
			wantShow(t, api.Pair{Key: keyOf(api.Place{Kind: 3, Tenant: "a", User: one(b), Token: lowToken})}, `a user "`+quoted+`" token `+lowToken)
		}
	}
}

func TestShowNone(t *testing.T) { // P22.7: a key that is none, a value that is none
	wantShow(t, api.Pair{}, `? ""`)
	wantShow(t, api.Pair{Key: "", Value: "x"}, `? ""`)
	wantShow(t, api.Pair{Key: "abc", Value: "x"}, `? "abc"`)
	wantShow(t, api.Pair{Key: part("acme") + part("x")}, `? "\x02acme\x00\x02x\x00"`)
	wantShow(t, api.Pair{Key: part("acme") + part("l")}, `? "\x02acme\x00\x02l\x00"`)
	wantShow(t, api.Pair{Key: part("Acme") + part("l"), Value: ledgerValue(record.Empty())}, `? "\x02Acme\x00\x02l\x00"`)
	values := []string{"", "\x00", "x", ledgerValue(record.Empty()), sessionValue(api.Session{User: "ada"}), entries(1)[0], eight(0) + eight(0) + zeros, "\x00\x01\x01\x00"}
	none := 0
	for _, p := range places("a", "ada", midToken, 9, 7) {
		for _, value := range values {
			pair := api.Pair{Key: keyOf(p), Value: value}
			line := secondShow(pair)
			wantShow(t, pair, line)
			if line == "? "+secondQuote(pair.Key) {
				none++
			}
		}
	}
	want(t, "pairs that are none", none, 5*8-5)
	want(t, "a long one", len(record.Show(api.Pair{Key: strings.Repeat("\x00", 100000)})), 400004)
}
