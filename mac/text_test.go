package mac_test

import (
	"encoding/base64"
	"encoding/hex"
	"math/rand"
	"strings"
	"testing"

	"atrium/mac"
)

// letters are those of base64, in the order of their bits.
const letters = "ABCDEFGHIJKLMNOPQRSTUVWXYZabcdefghijklmnopqrstuvwxyz0123456789-_"

func TestHex(t *testing.T) { // P4.3
	want(t, "nothing", mac.Hex(""), "")
	all := ""
	for b := range 256 {
		s := string([]byte{byte(b)})
		want(t, "a byte", mac.Hex(s), hex.EncodeToString([]byte(s)))
		all += s
	}
	want(t, "all bytes", mac.Hex(all), hex.EncodeToString([]byte(all)))
	want(t, "in order", mac.Hex("\x01\x2a\xff\x00"), "012aff00")
}

func TestUnhexOfTwo(t *testing.T) { // P4.3, P4.5: all texts of two bytes
	const digits = "0123456789abcdef"
	for a := range 256 {
		for b := range 256 {
			s := string([]byte{byte(a), byte(b)})
			high, low := strings.IndexByte(digits, byte(a)), strings.IndexByte(digits, byte(b))
			told, ok := mac.Unhex(s)
			if high < 0 || low < 0 {
				wantTold(t, "no digits", told, ok, "", false)
				continue
			}
			wantTold(t, s, told, ok, string([]byte{byte(16*high + low)}), true)
			want(t, "Hex of it", mac.Hex(told), s)
		}
	}
}

func TestUnhexWrong(t *testing.T) { // P4.3
	for _, s := range []string{"0", "abc", "00f", "0g", "g0", "AB", "aB", "Ab", "00FF", "0x00", " 00", "00 ", "0 ", "00\n", "0\x00", "zz00", "00zz", "é0", "--", "00ffg", "00/0", "00:0", "00`0"} {
		told, ok := mac.Unhex(s)
		wantTold(t, s, told, ok, "", false)
	}
	told, ok := mac.Unhex("")
	wantTold(t, "nothing", told, ok, "", true)
}

func TestBase64(t *testing.T) { // P4.3
	r := rand.New(rand.NewSource(51))
	for n := range 100 {
		for range 20 {
			s := text(r, n)
			want(t, "Base64", mac.Base64(s), base64.RawURLEncoding.EncodeToString([]byte(s)))
		}
	}
	for _, x := range []struct{ s, should string }{
		{"", ""}, {"f", "Zg"}, {"fo", "Zm8"}, {"foo", "Zm9v"}, {"foob", "Zm9vYg"}, {"fooba", "Zm9vYmE"}, {"foobar", "Zm9vYmFy"},
		{"\x00", "AA"}, {"\x00\x00", "AAA"}, {"\x00\x00\x00", "AAAA"}, {"\xff\xff\xff", "____"}, {"\xfb\xef\xbe", "----"},
	} {
		want(t, "Base64", mac.Base64(x.s), x.should)
		told, ok := mac.Unbase64(x.should)
		wantTold(t, x.should, told, ok, x.s, true)
	}
}

// unbase64 says by counting what a text's bytes are: all its bits in a row.
func unbase64(s string) (string, bool) {
	bits := ""
	for i := range len(s) {
		place := strings.IndexByte(letters, s[i])
		if place < 0 {
			return "", false
		}
		for b := 5; b >= 0; b-- {
			bits += string("01"[place>>b&1])
		}
	}
	whole := len(bits) / 8 * 8
	if len(s)%4 == 1 || strings.Contains(bits[whole:], "1") {
		return "", false
	}
	var out []byte
	for i := 0; i < whole; i += 8 {
		x := 0
		for _, b := range bits[i : i+8] {
			x = 2*x + int(b-'0')
		}
		out = append(out, byte(x))
	}
	return string(out), true
}

func TestUnbase64Short(t *testing.T) { // P4.3, P4.5: all texts of one and two bytes
	for a := range 256 {
		told, ok := mac.Unbase64(string([]byte{byte(a)}))
		wantTold(t, "one letter", told, ok, "", false)
		for b := range 256 {
			s := string([]byte{byte(a), byte(b)})
			should, shouldBe := unbase64(s)
			told, ok := mac.Unbase64(s)
			wantTold(t, s, told, ok, should, shouldBe)
			if ok {
				want(t, "Base64 of it", mac.Base64(told), s)
			}
		}
	}
}

func TestUnbase64OfLetters(t *testing.T) { // P4.3, P4.5: all texts of three letters, and some longer ones
	for i := range 64 * 64 * 64 {
		s := string([]byte{letters[i>>12], letters[i>>6&63], letters[i&63]})
		told, ok := mac.Unbase64(s)
		want(t, s, ok, i&3 == 0)
		if ok {
			wantText(t, s, told, string([]byte{byte(i >> 10), byte(i >> 2)}))
			want(t, "Base64 of it", mac.Base64(told), s)
		} else {
			wantText(t, s, told, "")
		}
	}
	r := rand.New(rand.NewSource(52))
	for range 20000 {
		b := make([]byte, r.Intn(14))
		for i := range b {
			b[i] = letters[r.Intn(64)]
			if r.Intn(40) == 0 {
				b[i] = "=+/ \n\x00\xff.,~"[r.Intn(10)]
			}
		}
		should, shouldBe := unbase64(string(b))
		told, ok := mac.Unbase64(string(b))
		wantTold(t, string(b), told, ok, should, shouldBe)
		if ok {
			want(t, "Base64 of it", mac.Base64(told), string(b))
		}
	}
}

func TestUnbase64Wrong(t *testing.T) { // P4.3
	for _, s := range []string{
		"=", "==", "AA==", "AAA=", "AAAA=", "AAAA====", "Zg==", "Zm8=", // padding
		"+/8", "AA+A", "AA/A", "A A", " AA", "AA ", "AA\n", "AA\r\n", "A\nA", "AAAA\n", "AA.A", "é", "AAAé", // other letters
		"A", "AAAAA", "AAAAAAAAA", // a letter too many
		"AB", "AP", "A_", "AAB", "AAC", "AAD", "AA_", "-_9", "-_-", "Zh", "Zm9", "Zm9vYh", "Zm9vYmF", // last bits
	} {
		told, ok := mac.Unbase64(s)
		wantTold(t, s, told, ok, "", false)
	}
	told, ok := mac.Unbase64("")
	wantTold(t, "nothing", told, ok, "", true)
}

func TestThereAndBack(t *testing.T) { // P4.5
	r := rand.New(rand.NewSource(53))
	for n := range 300 {
		s := text(r, n)
		told, ok := mac.Unhex(mac.Hex(s))
		wantTold(t, "Unhex of Hex", told, ok, s, true)
		want(t, "two digits a byte", len(mac.Hex(s)), 2*n)
		told, ok = mac.Unbase64(mac.Base64(s))
		wantTold(t, "Unbase64 of Base64", told, ok, s, true)
		want(t, "letters", len(mac.Base64(s)), (4*n+2)/3)
	}
}
