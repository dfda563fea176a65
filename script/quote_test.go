package script_test

import (
	"math/rand"
	"strings"
	"testing"

	"atrium/script"
)

func wantUnquote(t *testing.T, s, should string, is bool) {
	t.Helper()
	got, ok := script.Unquote(s)
	if got != should || ok != is {
		t.Errorf("Unquote of %q: %q %v, not %q %v", s, got, ok, should, is)
	}
}

func TestQuoteBytes(t *testing.T) { // P28.1: each byte, alone and among others
	for c := range 256 {
		for _, s := range []string{string([]byte{byte(c)}), "a" + string([]byte{byte(c)}) + "b", string([]byte{byte(c), byte(c)})} {
			want(t, "Quote", script.Quote(s), quoted(s))
			wantUnquote(t, quoted(s), s, true)
		}
	}
	for s, should := range map[string]string{
		"":               `""`,
		"abc":            `"abc"`,
		" ":              `" "`,
		"\"":             `"\""`,
		"\\":             `"\\"`,
		"a\r\n":          `"a\x0d\x0a"`,
		"\x00\x1f ~\x7f": `"\x00\x1f ~\x7f"`,
		"é":              `"\xc3\xa9"`,
		"\xff\xfe":       `"\xff\xfe"`,
		`\x41`:           `"\\x41"`,
	} {
		want(t, "Quote", script.Quote(s), should)
		wantUnquote(t, should, s, true)
	}
}

func TestUnquoteEscapes(t *testing.T) { // P28.1: each escape of two digits stands for a byte just if that needs it
	const all = "0123456789abcdefABCDEF"
	for i := range len(all) {
		for j := range len(all) {
			s := `"\x` + all[i:i+1] + all[j:j+1] + `"`
			small := strings.ToLower(s) == s
			n := strings.IndexByte(all, all[i])*16 + strings.IndexByte(all, all[j])
			is := small && (n < 32 || n > 126)
			should := ""
			if is {
				should = string([]byte{byte(n)})
			}
			wantUnquote(t, s, should, is)
		}
	}
	for c := range 256 { // behind a `\` stand these three alone
		if c != '"' && c != '\\' {
			wantUnquote(t, `"\`+string([]byte{byte(c)})+`"`, "", false)
			wantUnquote(t, `"\`+string([]byte{byte(c)})+`00"`, map[bool]string{true: "\x00"}[c == 'x'], c == 'x')
		}
		if c < 32 || c > 126 { // one that is not escaped, and needs it
			wantUnquote(t, `"a`+string([]byte{byte(c)})+`"`, "", false)
		}
	}
}

func TestUnquoteWrong(t *testing.T) { // P28.1: what is none's quoted text
	for _, s := range []string{
		``, `"`, `a`, `abc`, `"abc`, `abc"`, `"""`, `"a"b"`, `"\"`, `"\\\"`, `"abc\"`, `"\x"`, `"\x0"`, `"\x0`, `"\`, `\"`, `""a`, `"a"a`, `"a" `,
		` "a"`, `"a""`, `""a"`, `'a'`, "\"\n\"", `"\n"`, `"\x0g"`, `"\xg0"`, `"\xé"`, `"\u0000"`, `"\x20"`, `"\x7e"`, `"\x22"`, `"\x5c"`, `"\X00"`, `"é"`, `"` + "\xff" + `"`, `"\ "`, `xabcx`,
	} {
		wantUnquote(t, s, "", false)
	}
}

func TestUnquoteCut(t *testing.T) { // P28.1: cut anywhere, or with something behind its end
	s := script.Quote("a \"\\\x00\xff z\\\"\n")
	for i := range len(s) {
		wantUnquote(t, s[:i], "", false)
	}
	wantUnquote(t, s[1:], "", false)
	for c := range 256 {
		wantUnquote(t, s+string([]byte{byte(c)}), "", false)
		wantUnquote(t, string([]byte{byte(c)})+s, "", false)
	}
}

func TestQuoteThereAndBack(t *testing.T) { // P28.5
	r := rand.New(rand.NewSource(28))
	taken := 0
	for range 20000 {
		s := anyText(r)
		q := script.Quote(s)
		want(t, "Quote", q, quoted(s))
		wantUnquote(t, q, s, true)
		b := []byte(q)
		b[r.Intn(len(b))] = pickOf(r, 'x', '"', '\\', ' ', '0', 'a', 'A', byte(r.Intn(256)))
		if s, is := script.Unquote(string(b)); is {
			taken++
			want(t, "Quote of what Unquote takes", script.Quote(s), string(b))
		} else if s != "" {
			t.Errorf("Unquote of %q: %q beside false", b, s)
		}
	}
	if taken < 1000 {
		t.Errorf("%d were taken", taken)
	}
	long := strings.Repeat("\x00\"a", 100000)
	wantUnquote(t, script.Quote(long), long, true)
}
