package text_test

import (
	"math"
	"strconv"
	"strings"
	"testing"

	"atrium/api"
	"atrium/text"
)

func TestNameLengths(t *testing.T) { // P15.2
	for n, may := range map[int]bool{0: false, 1: true, 2: true, 63: true, 64: true, 65: false, 66: false, 1000: false} {
		want(t, "letters", text.Name(strings.Repeat("a", n)), may)
	}
	want(t, "64 bytes in 32 runes", text.Name(strings.Repeat("é", 32)), true)
	want(t, "66 bytes in 33 runes", text.Name(strings.Repeat("é", 33)), false)
	want(t, "65 bytes", text.Name(strings.Repeat("é", 32)+"a"), false)
	want(t, "64 bytes in 16 runes", text.Name(strings.Repeat("\U0001F600", 16)), true)
	want(t, "65 bytes, the last one wrong", text.Name(strings.Repeat("a", 64)+"\n"), false)
	want(t, "64 bytes, the last one wrong", text.Name(strings.Repeat("a", 63)+"\n"), false)
}

func TestNameRunes(t *testing.T) { // P15.2: each rune, alone and between others
	for n := range 0x110000 {
		if !isRune(n) {
			continue
		}
		may := !(n < 0x20 || n >= 0x7F && n <= 0x9F || n == 0x2028 || n == 0x2029 || n == 0xFEFF)
		s := bytesOf(n)
		if text.Name(s) != may || text.Name("a"+s) != may || text.Name(s+"b") != may {
			t.Errorf("a name with %x: %v", n, !may)
		}
	}
}

func TestNameEdges(t *testing.T) { // P15.2
	for _, s := range []string{" ", "  ", "~", "Ada L.", "a/b", "%", "\"", "\\", "\u00A0", "\u00A1", "\u2027", "\u202A", "\uFEFE", "\uFF00", "\uFFFD", "\uFFFF", "\U0010FFFF", "\U0001F600", "日本"} {
		want(t, s, text.Name(s), true)
	}
	for _, s := range []string{"\x00", "\x1F", "\t", "a\nb", "\x7F", "\u0080", "\u0085", "\u009F", "\u2028", "\u2029", "\uFEFF", "\uFEFFa", "a\uFEFF", "a\u2028b"} {
		want(t, strconv.Quote(s), text.Name(s), false)
	}
	for _, w := range wrongs() {
		for _, s := range []string{w, "a" + w, w + "b", "é" + w + "é"} {
			want(t, strconv.Quote(s), text.Name(s), false)
		}
	}
}

func TestToken(t *testing.T) { // P15.2: each byte, alone and between others
	const bytes = "!#$%&'*+-.^_`|~0123456789abcdefghijklmnopqrstuvwxyzABCDEFGHIJKLMNOPQRSTUVWXYZ"
	want(t, "nothing", text.Token(""), false)
	want(t, "all of them", text.Token(bytes), true)
	for b := range 256 {
		s := string([]byte{byte(b)})
		is := strings.Contains(bytes, s)
		for _, x := range []string{s, s + "a", "a" + s, "a" + s + "b", s + s, bytes + s} {
			want(t, strconv.Quote(x), text.Token(x), is)
		}
	}
	want(t, "é", text.Token("é"), false)
	want(t, "long", text.Token(strings.Repeat("x", 100000)), true)
}

func TestLower(t *testing.T) { // P15.2
	for b := range 256 {
		should := byte(b)
		if strings.Contains("ABCDEFGHIJKLMNOPQRSTUVWXYZ", string([]byte{byte(b)})) {
			should += 32
		}
		wantText(t, "a byte", text.Lower(string([]byte{byte(b)})), string([]byte{should}))
		wantText(t, "between others", text.Lower(string([]byte{'A', byte(b), 'Z'})), string([]byte{'a', should, 'z'}))
	}
	for _, x := range []struct{ s, should string }{
		{"", ""}, {"AbC-9", "abc-9"}, {"Content-Length", "content-length"}, {"@[`{", "@[`{"},
		{"ÄÖÉ", "ÄÖÉ"}, {"ΑΒΓ", "ΑΒΓ"}, {"\u0130\u212A", "\u0130\u212A"}, {"\xC3\xC1", "\xC3\xC1"}, {"A\xFFB", "a\xFFb"}, // letters beyond ASCII, and bytes of none
	} {
		wantText(t, x.s, text.Lower(x.s), x.should)
	}
}

func TestTrim(t *testing.T) { // P15.2
	for _, x := range []struct{ s, should string }{
		{"", ""}, {" ", ""}, {"\t", ""}, {" \t \t", ""}, {"a", "a"}, {" a", "a"}, {"a ", "a"}, {"\ta\t", "a"}, {" \ta b\t ", "a b"}, {"a \t b", "a \t b"},
		{"\na\n", "\na\n"}, {"\ra\r", "\ra\r"}, {" \n ", "\n"}, {"\u00A0a\u00A0", "\u00A0a\u00A0"}, {"\va\f", "\va\f"}, {"\x00 ", "\x00"},
		{" \xFF ", "\xFF"}, {"\xA0 a", "\xA0 a"}, {"\u3000", "\u3000"},
	} {
		wantText(t, strconv.Quote(x.s), text.Trim(x.s), x.should)
	}
	for b := range 256 { // each other byte stays
		s := string([]byte{byte(b)})
		should := s
		if b == ' ' || b == '\t' {
			should = ""
		}
		wantText(t, "a byte", text.Trim(s), should)
		wantText(t, "with blanks around", text.Trim(" \t"+s+"\t "), should)
	}
}

func TestDigits(t *testing.T) { // P15.4
	for _, x := range []struct {
		s    string
		most int
		n    int
		e    api.Errno
	}{
		{"", 9, 0, api.ErrText}, {"0", 0, 0, api.OK}, {"0", 9, 0, api.OK}, {"1", 9, 1, api.OK}, {"9", 9, 9, api.OK},
		{"42", 43, 42, api.OK}, {"42", 42, 42, api.OK}, {"42", 41, 0, api.ErrLong}, {"42", 0, 0, api.ErrLong},
		{"0", -1, 0, api.ErrLong}, {"5", -1, 0, api.ErrLong}, {"5", math.MinInt, 0, api.ErrLong}, {"", -1, 0, api.ErrText}, {"x", -1, 0, api.ErrText},
		{"00", 9, 0, api.ErrText}, {"01", 9, 0, api.ErrText}, {"000", 0, 0, api.ErrText}, {"0123456789", math.MaxInt, 0, api.ErrText},
		{"999999999999999999", math.MaxInt, 999999999999999999, api.OK}, {"100000000000000000", math.MaxInt, 100000000000000000, api.OK},
		{"999999999999999999", 999999999999999999, 999999999999999999, api.OK}, {"999999999999999999", 999999999999999998, 0, api.ErrLong},
		{"1000000000000000000", math.MaxInt, 0, api.ErrText}, {"9223372036854775807", math.MaxInt, 0, api.ErrText}, // nineteen, though they would fit
		{"0000000000000000000", math.MaxInt, 0, api.ErrText}, {strings.Repeat("1", 100000), math.MaxInt, 0, api.ErrText},
		{"01", 0, 0, api.ErrText}, {"1000000000000000000", 0, 0, api.ErrText}, // what is named first
		{"+1", 9, 0, api.ErrText}, {"-1", 9, 0, api.ErrText}, {"-0", 9, 0, api.ErrText}, {" 1", 9, 0, api.ErrText}, {"1 ", 9, 0, api.ErrText}, {"1.0", 9, 0, api.ErrText}, {"1e1", 99, 0, api.ErrText}, {"0x1", 9, 0, api.ErrText}, {"1_0", 99, 0, api.ErrText}, {"٣", 9, 0, api.ErrText}, {"９", 9, 0, api.ErrText},
		{"99x", 9, 0, api.ErrText},
	} {
		n, e := text.Digits(x.s, x.most)
		want(t, x.s, n, x.n)
		want(t, x.s, e, x.e)
	}
}

func TestDigitsOfBytes(t *testing.T) { // P15.4: each byte, alone and within
	for b := range 256 {
		s := string([]byte{byte(b)})
		should, e := 0, api.ErrText
		if b >= '0' && b <= '9' {
			should, e = b-'0', api.OK
		}
		n, err := text.Digits(s, 9)
		want(t, s, n, should)
		want(t, s, err, e)
		for _, x := range []string{"1" + s, "1" + s + "2"} {
			should, is := strconv.Atoi(x)
			n, err := text.Digits(x, math.MaxInt)
			want(t, x, err == api.OK, is == nil)
			want(t, x, n, should)
		}
	}
	for n := range 12000 {
		got, e := text.Digits(strconv.Itoa(n), 11000)
		if n > 11000 {
			want(t, "above", e, api.ErrLong)
			want(t, "above", got, 0)
			continue
		}
		want(t, "a number", e, api.OK)
		want(t, "a number", got, n)
	}
	for size := 1; size <= 18; size++ {
		n, _ := strconv.Atoi("123456789123456789"[:size])
		got, e := text.Digits("123456789123456789"[:size], n)
		want(t, "so many digits", e, api.OK)
		want(t, "so many digits", got, n)
	}
}
