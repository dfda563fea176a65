package json_test

import (
	"math/big"
	"reflect"
	"slices"
	"strings"
	"testing"
	"unicode/utf8"

	"atrium/api"
	"atrium/json"
)

// want fails the test, if what was told is not what should be.
func want[T comparable](t *testing.T, what string, got, should T) {
	t.Helper()
	if got != should {
		t.Errorf("%s: %v, not %v", what, got, should)
	}
}

// wantList is want of lists, of which nil and the empty one are the same.
func wantList[T comparable](t *testing.T, what string, got, should []T) {
	t.Helper()
	if !slices.Equal(got, should) {
		t.Errorf("%s: %v, not %v", what, got, should)
	}
}

// wantPart is want of what any is told, part by part.
func wantPart(t *testing.T, what string, got, should any) {
	t.Helper()
	if !reflect.DeepEqual(got, should) {
		t.Errorf("%s: %#v, not %#v", what, got, should)
	}
}

// short is a text that may be shown.
func short(s string) string {
	if len(s) > 80 {
		return s[:80] + ".."
	}
	return s
}

// wantValue is that a text is one of a value.
func wantValue(t *testing.T, s string, should any) {
	t.Helper()
	v, e, at := json.Parse(s)
	if e != api.OK || at != 0 {
		t.Errorf("Parse of %q: %d at %d", short(s), e, at)
		return
	}
	wantPart(t, short(s), v, should)
}

// wantFault is that a text is none, and where.
func wantFault(t *testing.T, s string, should api.Errno, place int) {
	t.Helper()
	v, e, at := json.Parse(s)
	if v != nil || e != should || at != place {
		t.Errorf("Parse of %q: %#v, %d at %d, not %d at %d", short(s), v, e, at, should, place)
	}
}

// wantPrint is a value's text.
func wantPrint(t *testing.T, v any, should string) {
	t.Helper()
	s, e := json.Print(v)
	if s != should || e != api.OK {
		t.Errorf("Print: %q %d, not %q", short(s), e, short(should))
	}
}

// wantNoPrint is what has none.
func wantNoPrint(t *testing.T, what string, v any, should api.Errno) {
	t.Helper()
	s, e := json.Print(v)
	if s != "" || e != should {
		t.Errorf("Print of %s: %q %d, not %d", what, short(s), e, should)
	}
}

// nest is v in so many arrays, or objects.
func nest(v any, arrays, objects int) any {
	for range arrays {
		v = []any{v}
	}
	for range objects {
		v = map[string]any{"a": v}
	}
	return v
}

// The states of a machine: what comes next.
const (
	atValue = iota
	atItem  // a value, or the end of an array
	atField // a name, or the end of an object
	atName
	atColon
	behind // a value has ended
	inText
	inEscape
	inUnit
	atSlash // behind the first half of a pair
	atU
	inWord
	inMinus
	inNumber
)

// machine reads a text byte by byte, with all that is open in a list: the chapter told a second time, without a value.
type machine struct {
	state  int
	open   []byte
	names  []map[string]bool // of each that is open
	isName bool
	text   []byte // of a string: what it says
	skip   int    // how many bytes of a rune come
	unit   string
	high   int64
	word   string
	number string
	fault  api.Errno
}

// tell is what Parse should tell of a text that is not too long: the error and the place.
func tell(s string) (api.Errno, int) {
	m := &machine{fault: api.ErrJSON}
	for i := range len(s) {
		if !m.step(s[i], s[i:]) {
			return m.fault, i
		}
	}
	if len(m.open) == 0 && (m.state == behind || m.state == inNumber) {
		return api.OK, 0
	}
	return api.ErrJSON, len(s)
}

// step takes a byte, if it may come; rest begins with it.
func (m *machine) step(b byte, rest string) bool {
	if m.skip > 0 {
		m.skip--
		return true
	}
	if m.state == inNumber && (b < '0' || b > '9') {
		m.state = behind
	}
	if m.state <= behind && strings.ContainsRune(" \t\r\n", rune(b)) {
		return true
	}
	switch m.state {
	case atValue, atItem:
		return m.begin(b)
	case atField, atName:
		if b == '}' && m.state == atField {
			return m.close(b)
		}
		m.isName = true
		m.state = inText
		m.text = nil
		return b == '"'
	case atColon:
		m.state = atValue
		return b == ':'
	case behind:
		return m.next(b)
	case inText:
		return m.inside(b, rest)
	case inEscape:
		return m.escape(b)
	case inUnit:
		return m.digit(b)
	case atSlash:
		m.state = atU
		return b == '\\'
	case atU:
		m.state, m.unit = inUnit, ""
		return b == 'u'
	case inWord:
		is := b == m.word[0]
		m.word = m.word[1:]
		if m.word == "" {
			m.state = behind
		}
		return is
	case inMinus:
		m.state, m.number = inNumber, string([]byte{b})
		return b >= '1' && b <= '9'
	}
	m.number += string([]byte{b}) // a number, told as large as it is
	n, _ := new(big.Int).SetString(m.number, 10)
	return m.number[0] != '0' && n.Cmp(new(big.Int).SetInt64(1<<63-1)) <= 0
}

// begin takes a value's first byte.
func (m *machine) begin(b byte) bool {
	first := m.state == atItem
	switch b {
	case ']':
		return first && m.close(b)
	case '[', '{':
		if len(m.open) == 16 {
			m.fault = api.ErrDeep
			return false
		}
		m.open = append(m.open, b)
		m.names = append(m.names, map[string]bool{})
		m.state = map[byte]int{'[': atItem, '{': atField}[b]
	case '"':
		m.state, m.isName, m.text = inText, false, nil
	case 'n':
		m.state, m.word = inWord, "ull"
	case 't':
		m.state, m.word = inWord, "rue"
	case 'f':
		m.state, m.word = inWord, "alse"
	case '-':
		m.state = inMinus
	default:
		m.state, m.number = inNumber, string([]byte{b})
		return b >= '0' && b <= '9'
	}
	return true
}

// close takes the bracket that ends what is open.
func (m *machine) close(b byte) bool {
	if len(m.open) == 0 || m.open[len(m.open)-1]+2 != b { // the brackets of one kind are two apart
		return false
	}
	m.open = m.open[:len(m.open)-1]
	m.names = m.names[:len(m.names)-1]
	m.state = behind
	return true
}

// next takes what stands behind a value.
func (m *machine) next(b byte) bool {
	if b != ',' {
		return (b == ']' || b == '}') && m.close(b)
	}
	if len(m.open) == 0 {
		return false
	}
	m.state = map[byte]int{'[': atValue, '{': atName}[m.open[len(m.open)-1]]
	return true
}

// inside takes a byte of a string.
func (m *machine) inside(b byte, rest string) bool {
	switch {
	case b < 32:
		return false
	case b == '\\':
		m.state = inEscape
		return true
	case b != '"':
		r, size := utf8.DecodeRuneInString(rest)
		m.text = append(m.text, rest[:size]...)
		m.skip = size - 1
		return r != utf8.RuneError || size > 1
	case !m.isName:
		m.state = behind
		return true
	}
	names := m.names[len(m.names)-1]
	if names[string(m.text)] {
		return false
	}
	names[string(m.text)] = true
	m.state = atColon
	return true
}

func (m *machine) escape(b byte) bool {
	if b == 'u' {
		m.state, m.unit, m.high = inUnit, "", 0
		return true
	}
	at := strings.IndexByte(`"\/bfnrt`, b)
	if at < 0 {
		return false
	}
	m.text = append(m.text, "\"\\/\b\f\n\r\t"[at])
	m.state = inText
	return true
}

// digit takes a digit of a unit: what is there so far must be the begin of one that may be.
func (m *machine) digit(b byte) bool {
	m.unit += string([]byte{b})
	from, ok := new(big.Int).SetString((m.unit + "000")[:4], 16)
	to, _ := new(big.Int).SetString((m.unit + "fff")[:4], 16)
	if !ok || !strings.ContainsRune("0123456789abcdefABCDEF", rune(b)) {
		return false
	}
	low := func(n int64) bool { return n >= 0xDC00 && n <= 0xDFFF }
	if m.high != 0 && !low(to.Int64()) && !(from.Int64() <= 0xDC00 && to.Int64() >= 0xDFFF) {
		return false
	}
	if m.high == 0 && low(from.Int64()) && low(to.Int64()) {
		return false
	}
	if len(m.unit) < 4 {
		return true
	}
	n := from.Int64()
	switch {
	case m.high != 0:
		m.text = utf8.AppendRune(m.text, rune(0x10000+(m.high-0xD800)*1024+(n-0xDC00)))
		m.state = inText
	case n >= 0xD800 && n <= 0xDBFF:
		m.high = n
		m.state = atSlash
	default:
		m.text = utf8.AppendRune(m.text, rune(n))
		m.state = inText
	}
	return true
}
