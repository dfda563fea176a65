package text_test

import (
	"math/rand"
	"strconv"
	"strings"
	"testing"

	"atrium/api"
	"atrium/text"
)

const plain = "abcdefghijklmnopqrstuvwxyzABCDEFGHIJKLMNOPQRSTUVWXYZ0123456789-._~"

func TestEscape(t *testing.T) { // P15.3: each byte
	all, should := "", ""
	for b := range 256 {
		s := string([]byte{byte(b)})
		e := s
		if !strings.Contains(plain, s) {
			e = "%" + strings.ToUpper(strconv.FormatInt(int64(256+b), 16)[1:])
		}
		wantText(t, "a byte", text.Escape(s), e)
		all, should = all+s, should+e
	}
	wantText(t, "all of them", text.Escape(all), should)
	wantText(t, "nothing", text.Escape(""), "")
	wantText(t, "runes", text.Escape("a/b \u00e9"), "a%2Fb%20%C3%A9")
	wantText(t, "a percent", text.Escape("%2F"), "%252F")
	wantText(t, "a plus", text.Escape("a+b"), "a%2Bb")
	wantText(t, "wrong bytes", text.Escape("\xff\x80"), "%FF%80")
	told, e := text.Unescape(should)
	wantTold(t, "and back", told, e, all, api.OK) // P15.5
}

func TestUnescapeOfDigits(t *testing.T) { // P15.3: all pairs behind a percent
	value := func(b int) int { return strings.Index("0123456789abcdef", strings.ToLower(string([]byte{byte(b)}))) }
	for a := range 256 {
		for b := range 256 {
			s := string([]byte{'x', '%', byte(a), byte(b), 'y'})
			told, e := text.Unescape(s)
			if a >= 128 || b >= 128 || value(a) < 0 || value(b) < 0 {
				wantTold(t, strconv.Quote(s), told, e, "", api.ErrText)
				continue
			}
			wantTold(t, s, told, e, string([]byte{'x', byte(16*value(a) + value(b)), 'y'}), api.OK)
		}
	}
}

func TestUnescape(t *testing.T) { // P15.3
	for _, x := range []struct{ s, should string }{
		{"", ""}, {"abc", "abc"}, {"a%2Fb", "a/b"}, {"a%2fb", "a/b"}, {"%41%42", "AB"}, {"%25", "%"}, {"%2525", "%25"}, {"%252F", "%2F"},
		{"a+b", "a+b"}, {"a b", "a b"}, {"é", "é"}, {"\xff", "\xff"}, {"%00", "\x00"}, {"%FF%ff%fF%Ff", "\xff\xff\xff\xff"}, {"%C3%A9", "é"}, {"/?#&", "/?#&"},
		{"%610", "a0"},
	} {
		told, e := text.Unescape(x.s)
		wantTold(t, x.s, told, e, x.should, api.OK)
	}
	for _, s := range []string{"%", "a%", "%4", "a%4", "%%", "%%%", "%%41", "%4%41", "%g0", "%0g", "%G0", "%0G", "% 1", "%1 ", "%+1", "%-1", "%0x", "%x0", "%41%", "%41%4", "ab%zz", "%é", "%\xff\xff", "%\x00\x00", "%4\x00", "%:0", "%/0", "%@0", "%`0", "%u0041"} {
		told, e := text.Unescape(s)
		wantTold(t, strconv.Quote(s), told, e, "", api.ErrText)
	}
}

func TestPercentPlays(t *testing.T) { // P15.5
	r := rand.New(rand.NewSource(153))
	for range 5000 {
		b := make([]byte, r.Intn(20))
		for i := range b {
			b[i] = []byte{'%', '2', 'F', 'f', 'a', '+', byte(r.Intn(256))}[r.Intn(7)]
		}
		escaped := text.Escape(string(b))
		want(t, "plain bytes and percents", strings.Trim(escaped, plain+"%"), "")
		told, e := text.Unescape(escaped)
		wantTold(t, escaped, told, e, string(b), api.OK)
		if told, e := text.Unescape(string(b)); e == api.OK { // what a percent stands for is escaped and found again
			again, e := text.Unescape(text.Escape(told))
			wantTold(t, "again", again, e, told, api.OK)
		}
	}
}
