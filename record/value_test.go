package record_test

import (
	"math"
	"strings"
	"testing"

	"atrium/api"
	"atrium/record"
)

func TestEmpty(t *testing.T) { // P22.3
	want(t, "Empty", record.Empty(), api.Ledger{Next: 1, Entries: 0, Head: zeros})
	want(t, "zeros", len(zeros), 32)
	wantLedger(t, record.Empty())
}

func wantLedger(t *testing.T, l api.Ledger) {
	t.Helper()
	wantValue(t, l, ledgerValue(l), record.EncodeLedger, record.DecodeLedger)
}

func wantSession(t *testing.T, s api.Session) {
	t.Helper()
	wantValue(t, s, sessionValue(s), record.EncodeSession, with(s.Token))
}

func wantEntry(t *testing.T, x api.Entry) {
	t.Helper()
	wantValue(t, x, entryValue(x), record.EncodeEntry, record.DecodeEntry)
}

// wantNoLedger is that a ledger may not be, and that what would be its value is none.
func wantNoLedger(t *testing.T, l api.Ledger) {
	t.Helper()
	wantNoValue(t, l, record.EncodeLedger)
	wantNoRecord(t, ledgerValue(l), record.DecodeLedger)
}

func wantNoSession(t *testing.T, s api.Session) {
	t.Helper()
	wantNoValue(t, s, record.EncodeSession)
	wantNoRecord(t, sessionValue(s), with(s.Token))
}

func wantNoEntry(t *testing.T, x api.Entry) {
	t.Helper()
	wantNoValue(t, x, record.EncodeEntry)
	wantNoRecord(t, entryValue(x), record.DecodeEntry)
}

func TestLedgers(t *testing.T) { // P22.3, P22.5
	ends := []uint64{0, 1, 2, 255, 256, math.MaxInt64, 1 << 63, math.MaxUint64}
	for _, next := range ends {
		for _, entries := range ends {
			for _, head := range []string{zeros, strings.Repeat("\xFF", 32), "0123456789abcdef0123456789ABCDEF"} {
				l := api.Ledger{Next: next, Entries: entries, Head: head}
				if next == 0 {
					wantNoLedger(t, l)
				} else {
					wantLedger(t, l)
				}
			}
		}
	}
	for n := range 100 {
		l := api.Ledger{Next: 7, Entries: 9, Head: strings.Repeat("h", n)}
		if n == 32 {
			wantLedger(t, l)
		} else {
			wantNoLedger(t, l)
		}
	}
	wantNoLedger(t, api.Ledger{})
	s, _ := record.EncodeLedger(api.Ledger{Next: 258, Entries: 1, Head: zeros})
	want(t, "written out", s, "\x00\x00\x00\x00\x00\x00\x01\x02\x00\x00\x00\x00\x00\x00\x00\x01"+zeros)
	wantCut(t, s, record.DecodeLedger)
}

// wantCut is that a value that is cut off, begun later or goes on is none.
func wantCut[T comparable](t *testing.T, s string, decode func(string) (T, api.Errno)) {
	t.Helper()
	for i := range len(s) {
		wantNoRecord(t, s[:i], decode)
	}
	for b := range 256 {
		wantNoRecord(t, s+one(b), decode)
	}
	wantNoRecord(t, s+s, decode)
	wantNoRecord(t, "", decode)
	wantNoRecord(t, s+strings.Repeat("x", 100000), decode)
}

func TestSessionValues(t *testing.T) { // P22.3, P22.5
	own := api.Session{Token: midToken, User: "ada", Data: "x", Expires: 9}
	wantSession(t, own)
	s, _ := record.EncodeSession(own)
	want(t, "written out", s, "\x03ada\x01x\x00\x00\x00\x00\x00\x00\x00\x09")
	wantCut(t, s, with(midToken))
	for _, n := range ticks() {
		wantSession(t, api.Session{Token: midToken, User: "ada", Data: "x", Expires: n})
	}
	for _, n := range []int{0, 1, 127, 128, 129, 511, 512, 513, 514, 1000, 1024, 2000} {
		x := api.Session{Token: midToken, User: strings.Repeat("u", 64), Data: strings.Repeat("d", n), Expires: math.MaxUint64}
		if n <= 512 {
			wantSession(t, x)
		} else {
			wantNoSession(t, x)
		}
	}
	for _, data := range []string{"", "\x00", "\n", "\x7F", "é", "\uFEFF", "\u2028", strings.Repeat("é", 256), "\U0010FFFF", `{"a":1}`, "\uFFFD"} { // right is enough
		wantSession(t, api.Session{Token: lowToken, User: "ada", Data: data})
	}
	for _, data := range []string{"\xFF", "a\xC3", "\xC0\x80", "\xED\xA0\x80", "\xF4\x90\x80\x80", "\x80", strings.Repeat("d", 511) + "\xC3", strings.Repeat("é", 256) + "a"} {
		wantNoSession(t, api.Session{Token: lowToken, User: "ada", Data: data})
	}
	for _, user := range []string{"a", " ", "é", strings.Repeat("u", 64), strings.Repeat("é", 32)} {
		wantSession(t, api.Session{Token: highToken, User: user, Data: "x"})
	}
	for _, user := range []string{"", "\x00", "a\n", "\x7F", "\u0085", "\uFEFF", "\u2029", "\xFF", strings.Repeat("u", 65), strings.Repeat("u", 100000)} {
		wantNoSession(t, api.Session{Token: highToken, User: user, Data: "x"})
	}
	wantNoSession(t, api.Session{})
}

func TestSessionTokens(t *testing.T) { // P22.3: the Token is none of the value, but must be one
	for _, token := range []string{lowToken, midToken, highToken} {
		wantSession(t, api.Session{Token: token, User: "ada", Data: "x", Expires: 9})
	}
	for _, token := range []string{"", "A", lowToken[:21], lowToken + "A", lowToken[:21] + "B", lowToken[:21] + "=", lowToken[:21] + "\x00", strings.Repeat("\xFF", 22)} {
		wantNoSession(t, api.Session{Token: token, User: "ada", Data: "x", Expires: 9})
		wantNoRecord(t, "", with(token))
	}
}

func TestEntryValues(t *testing.T) { // P22.3, P22.5
	own := api.Entry{Number: 1, Kind: 2, Tick: 300, Subject: "ab"}
	wantEntry(t, own)
	s, _ := record.EncodeEntry(own)
	want(t, "written out", s, "\x01\x02\xAC\x02\x02ab")
	wantCut(t, s, record.DecodeEntry)
	for _, n := range []int{math.MinInt, -2, -1, 0, 1, 2, 127, 128, 1 << 20, math.MaxInt - 1, math.MaxInt} {
		for _, x := range []api.Entry{{Number: n, Kind: 1}, {Number: 1, Kind: n}, {Number: n, Kind: n, Tick: math.MaxUint64, Subject: strings.Repeat("s", 128)}} {
			if n >= 1 {
				wantEntry(t, x)
			} else {
				wantNoEntry(t, x)
			}
		}
	}
	for _, n := range ticks() {
		wantEntry(t, api.Entry{Number: 3, Kind: 4, Tick: n, Subject: "x"})
	}
	for _, n := range []int{0, 1, 126, 127, 128, 129, 130, 200, 255, 256, 1000, 10000} {
		x := api.Entry{Number: 3, Kind: 4, Tick: 5, Subject: strings.Repeat("\xFF", n)}
		if n <= 128 {
			wantEntry(t, x)
		} else {
			wantNoEntry(t, x)
		}
	}
	for b := range 256 { // any bytes
		wantEntry(t, api.Entry{Number: 1, Kind: 1, Subject: one(b)})
	}
	wantNoEntry(t, api.Entry{})
	wantNoEntry(t, api.Entry{Number: 1})
	wantNoEntry(t, api.Entry{Kind: 1})
}

func TestLongVarints(t *testing.T) { // P22.3: a number in more bytes than it must have, or of more than 64 bits
	for _, s := range []string{
		"\x81\x00\x02\x03\x01x", "\x01\x82\x00\x03\x01x", "\x01\x02\x83\x00\x01x", "\x01\x02\x03\x81\x00x", "\x01\x02\x80\x00\x01x", "\x01\x02\x03\x80\x00", "\x81\x80\x00\x02\x03\x01x",
		"\xFF\xFF\xFF\xFF\xFF\xFF\xFF\xFF\xFF\x01\x02\x03\x00", "\x01\xFF\xFF\xFF\xFF\xFF\xFF\xFF\xFF\xFF\x01\x03\x00", "\x80\x80\x80\x80\x80\x80\x80\x80\x80\x01\x02\x03\x00", // above the greatest int
		"\x01\x02\xFF\xFF\xFF\xFF\xFF\xFF\xFF\xFF\xFF\x02\x00", "\x01\x02\xFF\xFF\xFF\xFF\xFF\xFF\xFF\xFF\xFF\xFF\x01\x00", "\x00\x02\x03\x00", "\x01\x00\x03\x00",
	} {
		wantNoRecord(t, s, record.DecodeEntry)
	}
	wantEntry(t, api.Entry{Number: 1, Kind: 2, Tick: 3, Subject: "x"})
	for _, s := range []string{"\x83\x00ada\x01x" + eight(9), "\x03ada\x81\x00x" + eight(9), "\x03ada\x80\x00" + eight(9)} {
		wantNoRecord(t, s, with(midToken))
	}
}

func TestTurnedValues(t *testing.T) { // P22.3, P22.5: against the second reader
	is := 0
	ledger := ledgerValue(api.Ledger{Next: 1, Entries: 3, Head: strings.Repeat("h", 32)})
	turns(ledger, func(s string) {
		if !secondFits(api.Place{Kind: 1}, s) {
			wantNoRecord(t, s, record.DecodeLedger)
			return
		}
		is++
		wantLedger(t, api.Ledger{Next: number(s[:8]), Entries: number(s[8:16]), Head: s[16:]})
	})
	session := sessionValue(api.Session{User: "aé", Data: "\u2028x", Expires: 258})
	turns(session, func(s string) {
		x, ok := secondSession(midToken, s)
		if !ok {
			wantNoRecord(t, s, with(midToken))
			return
		}
		is++
		wantSession(t, x)
	})
	entry := entryValue(api.Entry{Number: 300, Kind: 5, Tick: 1 << 40, Subject: "ab\x00"})
	turns(entry, func(s string) {
		x, ok := secondEntry(s)
		if !ok {
			wantNoRecord(t, s, record.DecodeEntry)
			return
		}
		is++
		wantEntry(t, x)
	})
	if is < 10000 {
		t.Errorf("%d are values", is)
	}
}
