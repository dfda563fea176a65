package record

import (
	"strconv"
	"strings"

	"atrium/api"
	"atrium/mac"
)

// The bytes that are shown as they are, but for the two that are marked.
const (
	firstShown = 32
	lastShown  = 126
	marked     = `"\`
)

// Show is a record as a line for people.
func Show(p api.Pair) string {
	at, e := Where(p.Key)
	f := forms()[at.Kind]
	if e != api.OK || !f.fits(at, p.Value) {
		return "? " + quote(p.Key)
	}
	words := append([]string{at.Tenant}, f.tell(at, p.Value)...)
	return strings.Join(words, " ")
}

func tellLedger(_ api.Place, value string) []string {
	l, _ := DecodeLedger(value)
	return []string{"ledger", "next", digits(l.Next), "entries", digits(l.Entries), "head", mac.Hex(l.Head)}
}

func tellSession(p api.Place, value string) []string {
	s, _ := DecodeSession(p.Token, value)
	return []string{"session", s.Token, "user", quote(s.User), "data", quote(s.Data), "expires", digits(s.Expires)}
}

func tellUser(p api.Place, _ string) []string {
	return []string{"user", quote(p.User), "token", p.Token}
}

func tellExpiry(p api.Place, _ string) []string {
	return []string{"expires", digits(p.Expires), "token", p.Token}
}

// tellEntry tells what the text says, also where the key says another Number.
func tellEntry(_ api.Place, value string) []string {
	x, _ := DecodeEntry(value)
	return []string{"audit", strconv.Itoa(x.Number), "kind", strconv.Itoa(x.Kind), "tick", digits(x.Tick), "subject", quote(x.Subject)}
}

func digits(n uint64) string {
	return strconv.FormatUint(n, 10)
}

// quote is a text between marks, in bytes that are seen.
func quote(s string) string {
	var b strings.Builder
	b.WriteString(`"`)
	for i := range len(s) {
		b.WriteString(quoteByte(s[i : i+1]))
	}
	b.WriteString(`"`)
	return b.String()
}

func quoteByte(s string) string {
	if s[0] < firstShown || s[0] > lastShown {
		return `\x` + mac.Hex(s)
	}
	if strings.Contains(marked, s) {
		return `\` + s
	}
	return s
}
