package json_test

import (
	stdjson "encoding/json"
	"math/rand"
	"reflect"
	"regexp"
	"slices"
	"strconv"
	"strings"
	"testing"
	"unicode/utf8"

	"atrium/api"
	"atrium/json"
)

// randomText is a string, with what must be escaped, and runes of each length.
func randomText(r *rand.Rand) string {
	s := ""
	for range r.Intn(5) {
		s += []string{"a", "b", "\"", "\\", "/", "~", "0", "1", "\n", "\x00", "\x1f", "\x7f", "é", "€", "😀", "\uFFFD", "<", "\u2028", "\t", "[", "}", " "}[r.Intn(22)]
	}
	return s
}

// randomValue is a value with at most so many arrays and objects in one another.
func randomValue(r *rand.Rand, depth int) any {
	kinds := 7
	if depth == 0 {
		kinds = 5
	}
	switch r.Intn(kinds) {
	case 0:
		return nil
	case 1:
		return r.Intn(2) == 0
	case 2:
		return r.Intn(21) - 10
	case 3:
		return (1<<63 - 1 - r.Intn(1<<62)>>r.Intn(62)) * (1 - 2*r.Intn(2))
	case 4:
		return randomText(r)
	case 5:
		l := []any{}
		for range r.Intn(5) {
			l = append(l, randomValue(r, depth-1))
		}
		return l
	}
	m := map[string]any{}
	for range r.Intn(5) {
		m[randomText(r)] = randomValue(r, depth-1)
	}
	return m
}

// parts are the parts of one of a value's texts: marks, words, numbers, strings; with whatever escapes, and names in whatever order.
func parts(r *rand.Rand, v any) []string {
	switch x := v.(type) {
	case nil:
		return []string{"null"}
	case bool:
		return []string{strconv.FormatBool(x)}
	case int:
		return []string{strconv.Itoa(x)}
	case string:
		return []string{quoted(r, x)}
	case []any:
		l := []string{"["}
		for i, item := range x {
			if i > 0 {
				l = append(l, ",")
			}
			l = append(l, parts(r, item)...)
		}
		return append(l, "]")
	}
	m := v.(map[string]any)
	names := []string{}
	for name := range m {
		names = append(names, name)
	}
	slices.Sort(names)
	r.Shuffle(len(names), func(i, j int) { names[i], names[j] = names[j], names[i] })
	l := []string{"{"}
	for i, name := range names {
		if i > 0 {
			l = append(l, ",")
		}
		l = append(l, quoted(r, name), ":")
		l = append(l, parts(r, m[name])...)
	}
	return append(l, "}")
}

// quoted is one of a string's texts.
func quoted(r *rand.Rand, s string) string {
	unit := func(n rune) string {
		u := strconv.FormatInt(int64(0x10000+n), 16)[1:]
		if r.Intn(2) == 0 {
			u = strings.ToUpper(u)
		}
		return `\u` + u
	}
	out := `"`
	for _, c := range s {
		at := strings.IndexRune("\"\\/\b\f\n\r\t", c)
		switch {
		case at >= 0 && r.Intn(2) == 0:
			out += `\` + `"\/bfnrt`[at:at+1]
		case c >= 0x10000 && r.Intn(2) == 0:
			out += unit(0xD800+(c-0x10000)>>10) + unit(0xDC00+(c-0x10000)&0x3FF)
		case c < 0x10000 && (c < 32 || c == '"' || c == '\\' || r.Intn(3) == 0):
			out += unit(c)
		default:
			out += string(c)
		}
	}
	return out + `"`
}

// blank is some blanks, or none.
func blank(r *rand.Rand) string {
	s := ""
	for range r.Intn(3) {
		s += " \t\n\r"[r.Intn(4):][:1]
	}
	return s
}

func TestThereAndBack(t *testing.T) { // P16.4, P16.5
	r := rand.New(rand.NewSource(164))
	for range 5000 {
		v := randomValue(r, r.Intn(5))
		s, e := json.Print(v)
		want(t, "Print", e, api.OK)
		back, e, at := json.Parse(s)
		want(t, s, e, api.OK)
		want(t, s, at, 0)
		wantPart(t, s, back, v)
		want(t, s, json.Same(back, v), true)
		for range 3 { // all texts of it are printed the same, and none is shorter
			text := blank(r)
			for _, p := range parts(r, v) {
				text += p + blank(r)
			}
			other, e, _ := json.Parse(text)
			want(t, text, e, api.OK)
			wantPart(t, text, other, v)
			wantPrint(t, other, s)
			if len(text) < len(s) {
				t.Errorf("%q is shorter than %q", text, s)
			}
		}
	}
}

func TestBlanks(t *testing.T) { // P16.5: each blank at each place between parts, and within parts
	r := rand.New(rand.NewSource(165))
	for range 300 {
		v := randomValue(r, 4)
		l := parts(r, v)
		for i := range len(l) + 1 {
			for _, b := range []string{" ", "\t", "\n", "\r", " \r\n\t "} {
				wantValue(t, strings.Join(l[:i], "")+b+strings.Join(l[i:], ""), v)
			}
			for _, b := range []string{"\v", "\f", "\u00A0", "\x00", "\u2028", "\uFEFF", "\x1f"} {
				ahead := strings.Join(l[:i], "")
				wantFault(t, ahead+b+strings.Join(l[i:], ""), api.ErrJSON, len(ahead))
			}
		}
	}
	for _, x := range []struct {
		s  string
		at int
	}{{"n ull", 1}, {"tr ue", 2}, {"- 1", 1}, {"1 0", 2}, {`"\ n"`, 2}, {`"\u00 e9"`, 5}, {`"\ud83d \ude00"`, 7}, {"[ 1 , 2 3 ]", 8}} {
		wantFault(t, x.s, api.ErrJSON, x.at)
	}
	wantValue(t, `" a  b "`, " a  b ")
}

// library is what Go's own package has a text's value as: false, if the text is none by its grammar, or by what the chapter leaves out of it.
func library(s string) (any, bool) {
	if !stdjson.Valid([]byte(s)) || !utf8.ValidString(s) || hasLoneUnit(s) {
		return nil, false
	}
	d := stdjson.NewDecoder(strings.NewReader(s))
	d.UseNumber()
	return read(d, 0)
}

var numberForm = regexp.MustCompile(`^(0|-?[1-9][0-9]*)$`)

func read(d *stdjson.Decoder, depth int) (any, bool) {
	token, _ := d.Token()
	switch x := token.(type) {
	case stdjson.Number:
		n, err := strconv.Atoi(x.String())
		return n, err == nil && n != -1<<63 && numberForm.MatchString(x.String())
	case stdjson.Delim:
		if depth == 16 {
			return nil, false
		}
		l, m := []any{}, map[string]any{}
		for d.More() {
			name := ""
			if x == '{' {
				key, _ := d.Token()
				name = key.(string)
			}
			v, ok := read(d, depth+1)
			if _, twice := m[name]; !ok || x == '{' && twice {
				return nil, false
			}
			l, m[name] = append(l, v), v
		}
		d.Token()
		if x == '[' {
			return l, true
		}
		return m, true
	}
	return token, true
}

var escapeForm = regexp.MustCompile(`\\(u[0-9a-fA-F]{4}|.)`)

// hasLoneUnit tells whether, of a text with right escapes, a half of a pair stands without the other one.
func hasLoneUnit(s string) bool {
	high := -1 // where a first half ends
	for _, at := range escapeForm.FindAllStringIndex(s, -1) {
		n, _ := strconv.ParseInt(s[at[0]+2:at[1]], 16, 32)
		low := n >= 0xDC00 && n <= 0xDFFF
		if low != (high == at[0]) || high >= 0 && !low {
			return true
		}
		high = -1
		if n >= 0xD800 && n <= 0xDBFF {
			high = at[1]
		}
	}
	return high >= 0
}

// wantTold is that Parse tells what the second telling and the library do.
func wantTold(t *testing.T, s string) {
	t.Helper()
	v, e, at := json.Parse(s)
	shouldE, shouldAt := tell(s)
	if e != shouldE || at != shouldAt {
		t.Errorf("Parse of %q: %d at %d, not %d at %d", s, e, at, shouldE, shouldAt)
	}
	should, is := library(s)
	if is != (e == api.OK) || is && !reflect.DeepEqual(v, should) || !is && v != nil {
		t.Errorf("Parse of %q: %#v %d, not %#v", s, v, e, should)
	}
	if is { // P16.4
		p, e := json.Print(v)
		want(t, s, e, api.OK)
		want(t, s, len(p) <= len(s), true)
	}
}

func TestParsePlays(t *testing.T) { // P16.1: texts in which something is turned
	r := rand.New(rand.NewSource(161))
	pieces := []string{"", "[", "]", "{", "}", ",", ":", "\"", "\\", "0", "-", "1", ".", "e", "n", "null", "true", "false", " ", "\n", "a", "\"a\":", "\"a\"", "\\u", "\\ud83d", "\\ude00", "d8", "\xC3", "\xA9", "é", "\xFF", "\x00", "\x1f", "9223372036854775807", "9223372036854775808", "[[[[[[[[[[", "{\"\":{\"\":{\"\":{\"\":", "\\u0061", "\\n"}
	for range 40000 {
		s := strings.Join(parts(r, randomValue(r, r.Intn(5))), blank(r))
		for range r.Intn(3) {
			from := r.Intn(len(s) + 1)
			to := min(len(s), from+r.Intn(3))
			s = s[:from] + pieces[r.Intn(len(pieces))] + s[to:]
		}
		wantTold(t, s)
		wantTold(t, s[:r.Intn(len(s)+1)])
	}
}

func TestParseStringsOfPieces(t *testing.T) { // P16.1: escapes and pairs in whatever order
	r := rand.New(rand.NewSource(162))
	pieces := []string{"\\", "u", "d", "D", "8", "c", "f", "F", "0", "\\u", "\\ud800", "\\udbff", "\\udc00", "\\uDFFF", "\\u0041", "\\ud", "\"", "a", "\xE2\x82", "\xAC", "\n"}
	for range 60000 {
		s := `"`
		for range r.Intn(7) {
			s += pieces[r.Intn(len(pieces))]
		}
		wantTold(t, s)
		wantTold(t, s+`"`)
		wantTold(t, `{`+s+`":1,`+s+`":2}`)
	}
}

func TestParseShortTexts(t *testing.T) { // P16.1: all texts of up to five of some bytes
	const bytes = "[]{},:\"\\a10- "
	for size := range 6 {
		count := 1
		for range size {
			count *= len(bytes)
		}
		for n := range count {
			var s []byte
			for range size {
				s = append(s, bytes[n%len(bytes)])
				n /= len(bytes)
			}
			_, e, at := json.Parse(string(s))
			shouldE, shouldAt := tell(string(s))
			if e != shouldE || at != shouldAt {
				t.Errorf("Parse of %q: %d at %d, not %d at %d", s, e, at, shouldE, shouldAt)
			}
		}
	}
}
