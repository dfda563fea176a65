package record_test

import (
	"crypto/sha256"
	"encoding/base64"
	"encoding/binary"
	"encoding/hex"
	"fmt"
	"regexp"
	"slices"
	"sort"
	"strconv"
	"strings"
	"testing"
	"unicode/utf8"

	"atrium/api"
	"atrium/record"
)

// want fails the test, if what was told is not what should be.
func want[T comparable](t *testing.T, what string, got, should T) {
	t.Helper()
	if got != should {
		t.Errorf("%s: %v, not %v", what, got, should)
	}
}

// short is bytes that may be shown.
func short(s string) string {
	if len(s) > 200 {
		return strconv.Quote(s[:200]) + " .. of " + strconv.Itoa(len(s))
	}
	return strconv.Quote(s)
}

// one is a text of one byte.
func one(b int) string {
	return string([]byte{byte(b)})
}

// eight is a number in 8 bytes.
func eight(n uint64) string {
	return string(binary.BigEndian.AppendUint64(nil, n))
}

// part is a text as a part of a key.
func part(s string) string {
	return "\x02" + strings.ReplaceAll(s, "\x00", "\x00\xFF") + "\x00"
}

// num is a number as a part of a key.
func num(n uint64) string {
	return "\x01" + eight(n)
}

// varint is a number in groups of 7 bits.
func varint(n uint64) string {
	return string(binary.AppendUvarint(nil, n))
}

// lined is a text behind how many bytes it has.
func lined(s string) string {
	return varint(uint64(len(s))) + s
}

// token is the token of two numbers.
func token(n, draw uint64) string {
	return base64.RawURLEncoding.EncodeToString([]byte(eight(n) + eight(draw)))
}

// chain is the head behind an entry's text.
func chain(head, text string) string {
	sum := sha256.Sum256([]byte(head + eight(uint64(len(text))) + text))
	return string(sum[:])
}

// zeros is the head of an empty list.
const zeros = "\x00\x00\x00\x00\x00\x00\x00\x00\x00\x00\x00\x00\x00\x00\x00\x00\x00\x00\x00\x00\x00\x00\x00\x00\x00\x00\x00\x00\x00\x00\x00\x00"

// keyOf is the key of a place as the chapter's table has it, may it be or not.
func keyOf(p api.Place) string {
	switch ahead := part(p.Tenant); p.Kind {
	case 1:
		return ahead + part("l")
	case 2:
		return ahead + part("s") + part(p.Token)
	case 3:
		return ahead + part("u") + part(p.User) + part(p.Token)
	case 4:
		return ahead + part("e") + num(p.Expires) + part(p.Token)
	default:
		return ahead + part("a") + num(uint64(p.Number))
	}
}

// made is what the package makes of a place's parts.
func made(p api.Place) (string, api.Errno) {
	switch p.Kind {
	case 1:
		return record.LedgerKey(p.Tenant)
	case 2:
		return record.SessionKey(p.Tenant, p.Token)
	case 3:
		return record.UserKey(p.Tenant, p.User, p.Token)
	case 4:
		return record.ExpiryKey(p.Tenant, p.Expires, p.Token)
	}
	return record.AuditKey(p.Tenant, p.Number)
}

// wantPlace is that a place has its key, and that key the place.
func wantPlace(t *testing.T, p api.Place) {
	t.Helper()
	should := keyOf(p)
	if key, e := made(p); key != should || e != api.OK {
		t.Errorf("the key of %+v: %s, %d, not %s", p, short(key), e, short(should))
	}
	if q, e := record.Where(should); q != p || e != api.OK {
		t.Errorf("Where of %s: %+v, %d, not %+v", short(should), q, e, p)
	}
	if len(should) > api.MaxKey {
		t.Errorf("the key of %+v has %d bytes", p, len(should))
	}
}

// wantNoPlace is that a place has no key, and that what would be its key is none.
func wantNoPlace(t *testing.T, p api.Place) {
	t.Helper()
	if key, e := made(p); key != "" || e != api.ErrPlace {
		t.Errorf("the key of %+v: %s, %d", p, short(key), e)
	}
	wantNowhere(t, keyOf(p))
}

// wantNowhere is that a text is no key.
func wantNowhere(t *testing.T, key string) {
	t.Helper()
	if p, e := record.Where(key); p != (api.Place{}) || e != api.ErrPlace {
		t.Errorf("Where of %s: %+v, %d", short(key), p, e)
	}
}

// wantValue is that encoding is a value, and decoding of it what was encoded.
func wantValue[T comparable](t *testing.T, x T, should string, encode func(T) (string, api.Errno), decode func(string) (T, api.Errno)) {
	t.Helper()
	if s, e := encode(x); s != should || e != api.OK {
		t.Errorf("Encode of %+v: %s, %d, not %s", x, short(s), e, short(should))
	}
	if y, e := decode(should); y != x || e != api.OK {
		t.Errorf("Decode of %s: %+v, %d, not %+v", short(should), y, e, x)
	}
	if len(should) > api.MaxValue {
		t.Errorf("the value of %+v has %d bytes", x, len(should))
	}
}

// wantNoValue is that something has no value.
func wantNoValue[T comparable](t *testing.T, x T, encode func(T) (string, api.Errno)) {
	t.Helper()
	if s, e := encode(x); s != "" || e != api.ErrRecord {
		t.Errorf("Encode of %+v: %s, %d", x, short(s), e)
	}
}

// wantNoRecord is that a text is none's value.
func wantNoRecord[T comparable](t *testing.T, s string, decode func(string) (T, api.Errno)) {
	t.Helper()
	var none T
	if x, e := decode(s); x != none || e != api.ErrRecord {
		t.Errorf("Decode of %s: %+v, %d", short(s), x, e)
	}
}

// with is DecodeSession with a Token.
func with(token string) func(string) (api.Session, api.Errno) {
	return func(value string) (api.Session, api.Errno) { return record.DecodeSession(token, value) }
}

// The values as the chapter's table has them, may they be or not.
func ledgerValue(l api.Ledger) string   { return eight(l.Next) + eight(l.Entries) + l.Head }
func sessionValue(s api.Session) string { return lined(s.User) + lined(s.Data) + eight(s.Expires) }
func entryValue(x api.Entry) string {
	return varint(uint64(x.Number)) + varint(uint64(x.Kind)) + varint(x.Tick) + lined(x.Subject)
}

// The second reader: keys by the library's regular expressions, each byte being the rune of its number.
const (
	tokenForm = `([A-Za-z0-9_-]{21}[AQgw])`
	eightForm = `((?s:.{8}))`
)

var secondTokens = regexp.MustCompile("^" + tokenForm + "$")

var secondKey = regexp.MustCompile(`^\x02([a-z0-9-]{1,32})\x00(?:(\x02l\x00)|(\x02s\x00)\x02` + tokenForm + `\x00|(\x02u\x00)\x02([^\x00]{1,64})\x00\x02` + tokenForm + `\x00|(\x02e\x00)\x01` + eightForm + `\x02` + tokenForm + `\x00|(\x02a\x00)\x01` + eightForm + `)$`)

// runes is bytes as the runes of their numbers, bytes the way back.
func runes(s string) string {
	var b strings.Builder
	for i := range len(s) {
		b.WriteRune(rune(s[i]))
	}
	return b.String()
}

func bytes(s string) string {
	var b []byte
	for _, r := range s {
		b = append(b, byte(r))
	}
	return string(b)
}

// number is that of 8 bytes, 0 of none.
func number(s string) uint64 {
	if s == "" {
		return 0
	}
	return binary.BigEndian.Uint64([]byte(s))
}

// secondWhere is what the second reader tells of a key.
func secondWhere(key string) (api.Place, bool) {
	x := secondKey.FindStringSubmatch(runes(key))
	if x == nil {
		return api.Place{}, false
	}
	for i := range x {
		x[i] = bytes(x[i])
	}
	p := api.Place{Tenant: x[1], Token: x[4] + x[7] + x[10], User: x[6], Expires: number(x[9]), Number: int(number(x[12]))}
	for kind, i := range map[int]int{1: 2, 2: 3, 3: 5, 4: 8, 5: 11} {
		if x[i] != "" {
			p.Kind = kind
		}
	}
	if p.Kind == 3 && !secondName(p.User) || p.Kind == 5 && p.Number < 1 {
		return api.Place{}, false
	}
	return p, true
}

var noName = regexp.MustCompile(`[\x00-\x1f\x7f-\x{9f}\x{2028}\x{2029}\x{feff}]`)

func secondName(s string) bool {
	return len(s) >= 1 && len(s) <= 64 && utf8.ValidString(s) && !noName.MatchString(s)
}

// secondFits is whether a value is one of its key.
func secondFits(p api.Place, value string) bool {
	switch p.Kind {
	case 1:
		return len(value) == 48 && number(value[:8]) > 0
	case 2:
		_, is := secondSession(p.Token, value)
		return is
	case 5:
		_, is := secondEntry(value)
		return is
	}
	return value == ""
}

// cutText is the text with which bytes begin, by the library's varints.
func cutText(s string) (string, string) {
	n, size := binary.Uvarint([]byte(s))
	if size <= 0 || n > uint64(len(s)-size) {
		return "", ""
	}
	return s[size:][:n], s[size:][n:]
}

// secondSession is the session of a Token and a value, told by the library.
func secondSession(token, value string) (api.Session, bool) {
	user, rest := cutText(value)
	data, rest := cutText(rest)
	if len(rest) != 8 || !secondName(user) || len(data) > 512 || !utf8.ValidString(data) || !secondTokens.MatchString(token) {
		return api.Session{}, false
	}
	s := api.Session{Token: token, User: user, Data: data, Expires: number(rest)}
	return s, sessionValue(s) == value
}

// secondEntry is the entry of a text, told by the library.
func secondEntry(value string) (api.Entry, bool) {
	var l []uint64
	rest := value
	for range 3 {
		n, size := binary.Uvarint([]byte(rest))
		if size <= 0 {
			return api.Entry{}, false
		}
		l, rest = append(l, n), rest[size:]
	}
	subject, _ := cutText(rest)
	x := api.Entry{Number: int(l[0]), Kind: int(l[1]), Tick: l[2], Subject: subject}
	if x.Number < 1 || x.Kind < 1 || len(subject) > 128 || entryValue(x) != value {
		return api.Entry{}, false
	}
	return x, true
}

// keep is a tenant's sessions and entries.
type keep struct {
	sessions []api.Session
	entries  []string // their texts
	next     uint64   // 0: there is no ledger
}

// pairsOf is all records of tenants, by rising keys: what the second telling makes of sessions and entries.
func pairsOf(all map[string]keep) []api.Pair {
	var l []api.Pair
	for tenant, k := range all {
		put := func(p api.Place, value string) {
			p.Tenant = tenant
			l = append(l, api.Pair{Key: keyOf(p), Value: value})
		}
		for _, s := range k.sessions {
			put(api.Place{Kind: 2, Token: s.Token}, sessionValue(s))
			put(api.Place{Kind: 3, User: s.User, Token: s.Token}, "")
			put(api.Place{Kind: 4, Expires: s.Expires, Token: s.Token}, "")
		}
		head := zeros
		for i, text := range k.entries {
			put(api.Place{Kind: 5, Number: i + 1}, text)
			head = chain(head, text)
		}
		if k.next > 0 {
			put(api.Place{Kind: 1}, ledgerValue(api.Ledger{Next: k.next, Entries: uint64(len(k.entries)), Head: head}))
		}
	}
	sort.Slice(l, func(i, j int) bool { return l[i].Key < l[j].Key })
	return l
}

// secondAgree is what the second telling says of pairs: they agree, if all records made of the sessions, the entries' texts and the ledgers' Next among them are they.
func secondAgree(l []api.Pair) api.Errno {
	all := map[string]keep{}
	should := api.OK
	for _, p := range l {
		at, is := secondWhere(p.Key)
		if !is {
			return api.ErrPlace
		}
		if !secondFits(at, p.Value) {
			should = api.ErrRecord
			continue
		}
		k := all[at.Tenant]
		switch at.Kind {
		case 1:
			k.next = number(p.Value[:8])
		case 2:
			s, _ := secondSession(at.Token, p.Value)
			k.sessions = append(k.sessions, s)
		case 5:
			k.entries = append(k.entries, p.Value)
		}
		all[at.Tenant] = k
	}
	if should != api.OK {
		return should
	}
	for _, k := range all {
		for i, text := range k.entries {
			if x, _ := secondEntry(text); x.Number != i+1 {
				return api.ErrIndex
			}
		}
		if k.next == 0 && len(k.entries) > 0 {
			return api.ErrIndex
		}
	}
	if !slices.Equal(pairsOf(all), l) {
		return api.ErrIndex
	}
	return api.OK
}

// secondQuote is a text as a line has it.
func secondQuote(s string) string {
	shown := `"`
	for _, b := range []byte(s) {
		switch {
		case b == '"' || b == '\\':
			shown += `\` + one(int(b))
		case b >= ' ' && b <= '~':
			shown += one(int(b))
		default:
			shown += fmt.Sprintf(`\x%02x`, b)
		}
	}
	return shown + `"`
}

// secondShow is the line of a pair.
func secondShow(p api.Pair) string {
	at, is := secondWhere(p.Key)
	if !is || !secondFits(at, p.Value) {
		return "? " + secondQuote(p.Key)
	}
	switch at.Kind {
	case 1:
		return fmt.Sprintf("%s ledger next %d entries %d head %s", at.Tenant, number(p.Value[:8]), number(p.Value[8:16]), hex.EncodeToString([]byte(p.Value[16:])))
	case 2:
		s, _ := secondSession(at.Token, p.Value)
		return fmt.Sprintf("%s session %s user %s data %s expires %d", at.Tenant, s.Token, secondQuote(s.User), secondQuote(s.Data), s.Expires)
	case 3:
		return fmt.Sprintf("%s user %s token %s", at.Tenant, secondQuote(at.User), at.Token)
	case 4:
		return fmt.Sprintf("%s expires %d token %s", at.Tenant, at.Expires, at.Token)
	}
	x, _ := secondEntry(p.Value)
	return fmt.Sprintf("%s audit %d kind %d tick %d subject %s", at.Tenant, x.Number, x.Kind, x.Tick, secondQuote(x.Subject))
}

// turns tells each text that comes of one by a byte that is turned, put in or left out, or by cutting off.
func turns(s string, tell func(string)) {
	for i := range len(s) {
		tell(s[:i])
		tell(s[:i] + s[i+1:])
		tell(s[i:])
		for b := range 256 {
			tell(s[:i] + one(b) + s[i+1:])
			tell(s[:i] + one(b) + s[i:])
		}
	}
	for b := range 256 {
		tell(s + one(b))
	}
}
