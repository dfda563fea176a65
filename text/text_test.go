package text_test

import (
	"math"
	"math/rand"
	"slices"
	"testing"
	"unicode/utf8"

	"atrium/api"
	"atrium/text"
)

// want fails the test, if what was told is not what should be.
func want[T comparable](t *testing.T, what string, got, should T) {
	t.Helper()
	if got != should {
		t.Errorf("%s: %v, not %v", what, got, should)
	}
}

// wantText is want of bytes.
func wantText(t *testing.T, what, got, should string) {
	t.Helper()
	if got != should {
		t.Errorf("%s: %x, not %x", what, got, should)
	}
}

// wantList is want of lists, of which nil and the empty one are the same.
func wantList[T comparable](t *testing.T, what string, got, should []T) {
	t.Helper()
	if !slices.Equal(got, should) {
		t.Errorf("%s: %v, not %v", what, got, should)
	}
}

// wantTold is what a call tells that may refuse.
func wantTold(t *testing.T, what, got string, e api.Errno, should string, shouldBe api.Errno) {
	t.Helper()
	wantText(t, what, got, should)
	want(t, what, e, shouldBe)
}

// bytesOf is the UTF-8 that the chapter gives a number, told by its bits; right, if the number is a rune.
func bytesOf(n int) string {
	six := func(shift int) byte { return byte(0x80 + n/(1<<shift)%64) }
	switch {
	case n < 0x80:
		return string([]byte{byte(n)})
	case n < 0x800:
		return string([]byte{byte(0xC0 + n/64), six(0)})
	case n < 0x10000:
		return string([]byte{byte(0xE0 + n/4096), six(6), six(0)})
	}
	return string([]byte{byte(0xF0 + n/262144), six(12), six(6), six(0)})
}

// isRune is what the chapter says of numbers.
func isRune(n int) bool {
	return n >= 0 && n <= 0x10FFFF && !(n >= 0xD800 && n <= 0xDFFF)
}

// first is the rune that stands at the begin of s, and its size: a number is asked whether it has just these bytes. Of s without one: FFFD and 1, and false.
func first(s string) (rune, int, bool) {
	for size := 1; size <= 4 && size <= len(s); size++ {
		n := int(s[0]) & [5]int{0, 0x7F, 0x1F, 0xF, 7}[size]
		for i := 1; i < size; i++ {
			n = n*64 + int(s[i])&63
		}
		if isRune(n) && bytesOf(n) == s[:size] {
			return rune(n), size, true
		}
	}
	return 0xFFFD, 1, false
}

// wantRunes is all that P15.1, P15.5 and P15.6 say of a text, held against first, the library and Go's own range.
func wantRunes(t *testing.T, s string) {
	t.Helper()
	if s == "" {
		r, size := text.Decode(s)
		want(t, "Decode of nothing", r, 0)
		want(t, "Decode of nothing", size, 0)
	}
	var should []rune
	right := true
	for at := 0; at < len(s); {
		r, size, is := first(s[at:])
		gotR, gotSize := text.Decode(s[at:])
		if gotR != r || gotSize != size {
			t.Errorf("Decode of %x: %x %d, not %x %d", s[at:], gotR, gotSize, r, size)
		}
		should = append(should, r)
		right = right && is
		at += size
	}
	if text.Valid(s) != right || right != utf8.ValidString(s) {
		t.Errorf("Valid of %x: %v", s, text.Valid(s))
	}
	wantList(t, "Runes", text.Runes(s), should)
	want(t, "Count", text.Count(s), len(should))
	var ranged []rune
	for _, r := range s {
		ranged = append(ranged, r)
	}
	wantList(t, "as range tells", should, ranged)
	back, e := text.Text(text.Runes(s))
	want(t, "Text of Runes", e, api.OK)
	want(t, "the text again, just if it is right", back == s, right)
}

func TestExample(t *testing.T) {
	wantList(t, "Runes", text.Runes("\x61\xC3\xA9\xFF"), []rune{0x61, 0xE9, 0xFFFD})
	s, e := text.Encode(0xD800)
	wantTold(t, "Encode", s, e, "", api.ErrText)
	s, e = text.Unescape("a%2fb")
	wantTold(t, "Unescape", s, e, "a/b", api.OK)
	s, e = text.Unescape("%4")
	wantTold(t, "Unescape", s, e, "", api.ErrText)
}

func TestEachRune(t *testing.T) { // P15.1, P15.5: all numbers around the runes
	for n := -300; n <= 0x110100; n++ {
		s, e := text.Encode(rune(n))
		if !isRune(n) {
			wantTold(t, "no rune", s, e, "", api.ErrText)
			continue
		}
		if s != bytesOf(n) || e != api.OK {
			t.Fatalf("Encode of %x: %x %d", n, s, e)
		}
		r, size := text.Decode(s + "\x80")
		if r != rune(n) || size != len(s) || !text.Valid(s) || text.Count(s) != 1 {
			t.Fatalf("Decode of %x: %x %d", s, r, size)
		}
	}
}

func TestEdgesOfLengths(t *testing.T) { // P15.1: the first and last rune of each length, and what is none
	for _, x := range []struct {
		n int
		s string
	}{
		{0, "\x00"}, {0x7F, "\x7F"}, {0x80, "\xC2\x80"}, {0x7FF, "\xDF\xBF"}, {0x800, "\xE0\xA0\x80"},
		{0xD7FF, "\xED\x9F\xBF"}, {0xE000, "\xEE\x80\x80"}, {0xFFFD, "\xEF\xBF\xBD"}, {0xFFFF, "\xEF\xBF\xBF"},
		{0x10000, "\xF0\x90\x80\x80"}, {0x10FFFF, "\xF4\x8F\xBF\xBF"},
	} {
		s, e := text.Encode(rune(x.n))
		wantTold(t, "Encode", s, e, x.s, api.OK)
		r, size := text.Decode(x.s)
		want(t, "Decode", r, rune(x.n))
		want(t, "its size", size, len(x.s))
		want(t, "Valid", text.Valid(x.s), true)
	}
	for _, n := range []rune{-1, -2, -0x80, math.MinInt32, 0xD800, 0xD801, 0xDBFF, 0xDC00, 0xDFFE, 0xDFFF, 0x110000, 0x110001, math.MaxInt32} {
		s, e := text.Encode(n)
		wantTold(t, "Encode of no rune", s, e, "", api.ErrText)
	}
}

// wrongs are bytes at each of which no rune's UTF-8 stands.
func wrongs() []string {
	l := []string{
		"\xC0\x80", "\xC0\xAF", "\xC1\xBF", // longer than the shortest form
		"\xE0\x80\x80", "\xE0\x80\xAF", "\xE0\x82\x80", "\xE0\x9F\xBF",
		"\xF0\x80\x80\x80", "\xF0\x82\x82\xAC", "\xF0\x8F\xBF\xBF",
		"\xED\xA0\x80", "\xED\xAF\xBF", "\xED\xB0\x80", "\xED\xBF\xBF", // surrogates
		"\xED\xA0\xBD\xED\xB8\x80",
		"\xF4\x90\x80\x80", "\xF5\x80\x80\x80", "\xF7\xBF\xBF\xBF", // beyond 10FFFF
		"\xF8\x88\x80\x80\x80", "\xFC\x84\x80\x80\x80\x80", "\xFE", "\xFF", "\xFE\xFF", "\xFF\xFE",
	}
	for b := 0x80; b <= 0xFF; b++ { // alone: behind C2 to F4 something is missing, the others begin nothing
		l = append(l, string([]byte{byte(b)}))
	}
	for _, n := range []int{0x80, 0x7FF, 0x800, 0xD7FF, 0xE000, 0xFFFF, 0x10000, 0x10FFFF} { // cut off behind each byte
		s := bytesOf(n)
		for i := 1; i < len(s); i++ {
			l = append(l, s[:i])
		}
	}
	return l
}

func TestWrongBytes(t *testing.T) { // P15.1, P15.6: ahead of, between and behind right runes
	for _, w := range wrongs() {
		for _, s := range []string{w, w + "a", "a" + w, "a" + w + "b", "é" + w + "€", "\U0001F600" + w + "\uFFFD", w + w, w + "\uFFFD", "\uFFFD" + w, w + "é", "\x00" + w + "\x7F"} {
			want(t, "Valid", text.Valid(s), false)
			wantRunes(t, s)
		}
		want(t, "a rune for each byte", text.Count(w), len(w))
		for _, r := range text.Runes(w) {
			want(t, "FFFD", r, 0xFFFD)
		}
	}
	for _, s := range []string{"", "a", "é", "€", "\U0001F600", "\uFFFD", "a\uFFFDb", "\x00", "\x7F\u0080", "\uFEFF", "a\u0301"} {
		want(t, "Valid", text.Valid(s), true)
		wantRunes(t, s)
	}
}

func TestShortTexts(t *testing.T) { // P15.1, P15.5, P15.6: all of two bytes, and of four from the edges
	for a := range 256 {
		for b := range 256 {
			wantRunes(t, string([]byte{byte(a), byte(b)}))
		}
	}
	edges := "\x00A\x7F\x80\x8F\x90\x9F\xA0\xBF\xC1\xC2\xDF\xE0\xE1\xED\xEF\xF0\xF1\xF4\xF5\xFF"
	for n := range len(edges) * len(edges) * len(edges) * len(edges) {
		var s []byte
		for range 4 {
			s = append(s, edges[n%len(edges)])
			n /= len(edges)
		}
		wantRunes(t, string(s))
	}
}

func TestRunePlays(t *testing.T) { // P15.1, P15.5, P15.6
	r := rand.New(rand.NewSource(15))
	all := wrongs()
	for range 20000 {
		var s string
		var l []rune
		for range r.Intn(8) {
			n := r.Intn(0x110000) >> r.Intn(21)
			if isRune(n) {
				s += bytesOf(n)
				l = append(l, rune(n))
			}
		}
		wantRunes(t, s)
		wantList(t, "Runes", text.Runes(s), l)
		told, e := text.Text(l)
		wantTold(t, "Text", told, e, s, api.OK)
		at := r.Intn(len(s) + 1)
		wantRunes(t, s[:at]+all[r.Intn(len(all))]+s[at:])
		wantRunes(t, s[at:])
	}
}

func TestText(t *testing.T) { // P15.1
	s, e := text.Text(nil)
	wantTold(t, "of nil", s, e, "", api.OK)
	s, e = text.Text([]rune{})
	wantTold(t, "of none", s, e, "", api.OK)
	l := []rune{'a', 0xE9, 0x20AC, 0xFFFD, 0, 0x10FFFF, 0x1F600}
	s, e = text.Text(l)
	wantTold(t, "of runes", s, e, "aé€\uFFFD\x00\U0010FFFF\U0001F600", api.OK)
	for at := range l {
		for _, n := range []rune{-1, math.MinInt32, 0xD800, 0xDBFF, 0xDC00, 0xDFFF, 0x110000, math.MaxInt32} {
			wrong := slices.Clone(l)
			wrong[at] = n
			s, e := text.Text(wrong)
			wantTold(t, "with one that is none", s, e, "", api.ErrText)
			want(t, "as it was", wrong[at], n) // R3
		}
	}
}

func TestRunesAreNew(t *testing.T) { // R3
	a, b := text.Runes("abc"), text.Runes("abc")
	a[0] = 'x'
	wantList(t, "another answer", b, []rune("abc"))
	l := []rune{'a', 'b', 'c', 'd'}
	s, _ := text.Text(l[:2])
	l[0] = 'x'
	wantText(t, "what was told", s, "ab")
	wantList(t, "behind the end", l, []rune{'x', 'b', 'c', 'd'})
}
