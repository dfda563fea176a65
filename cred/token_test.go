package cred_test

import (
	"math"
	"math/rand"
	"strings"
	"testing"

	"atrium/api"
	"atrium/cred"
)

func TestTokens(t *testing.T) { // P21.3, P21.5: written out
	const top = math.MaxUint64
	for _, x := range []struct {
		n, draw uint64
		s       string
	}{
		{0, 0, "AAAAAAAAAAAAAAAAAAAAAA"}, {1, 0, "AAAAAAAAAAEAAAAAAAAAAA"}, {0, 1, "AAAAAAAAAAAAAAAAAAAAAQ"}, {7, 9, "AAAAAAAAAAcAAAAAAAAACQ"}, {top, top, "_____________________w"}, {top, 0, "__________8AAAAAAAAAAA"}, {0, top, "AAAAAAAAAAD__________w"}, {0x0123456789ABCDEF, 0xFEDCBA9876543210, "ASNFZ4mrze_-3LqYdlQyEA"},
	} {
		wantToken(t, x.s, x.n, x.draw)
		want(t, "the second telling", secondToken(x.n, x.draw), x.s)
		want(t, "bytes", len(x.s), 22)
	}
}

func TestTokenEnds(t *testing.T) { // P21.3, P21.5: the ends of both numbers, and each bit
	numbers := []uint64{0, 1, 2, 255, 256, math.MaxUint32, math.MaxInt64, 1 << 63, math.MaxUint64 - 1, math.MaxUint64}
	for i := range 64 {
		numbers = append(numbers, 1<<i+5)
	}
	seen := map[string]int{}
	for _, n := range numbers {
		for _, draw := range numbers {
			s := cred.Token(n, draw)
			wantToken(t, s, n, draw)
			want(t, "the second telling", s, secondToken(n, draw))
			want(t, "bytes", len(s), api.TokenSize)
			seen[s]++
		}
	}
	want(t, "unlike tokens", len(seen), len(numbers)*len(numbers))
}

func TestNoToken(t *testing.T) { // P21.3
	for n := range 70 {
		if s := strings.Repeat("A", n); n == 22 {
			wantToken(t, s, 0, 0)
		} else {
			wantNoToken(t, s)
		}
	}
	for _, s := range []string{
		"AAAAAAAAAAAAAAAAAAAAAA=", "AAAAAAAAAAAAAAAAAAAAAA==", "AAAAAAAAAAAAAAAAAAAA==", "AAAAAAAAAAAAAAAAAAAAA=", "+/AAAAAAAAAAAAAAAAAAAA", " AAAAAAAAAAAAAAAAAAAAA", "AAAAAAAAAAAAAAAAAAAAA ", "AAAAAAAAAAAAAAAAAAAAAA\n", "AAAAAAAAAAA\nAAAAAAAAAA", "\r\nAAAAAAAAAAAAAAAAAAAA", "\nAAAAAAAAAAAAAAAAAAAAAA", "ééééééééééé", "AAAAAAAAAAAAAAAAAAAA\xC3\xA9",
		strings.Repeat("A", 100000), strings.Repeat("A", 22) + strings.Repeat("=", 22), strings.Repeat("\x00", 22), strings.Repeat("\xFF", 22),
	} {
		wantNoToken(t, s)
	}
}

func TestLastLetter(t *testing.T) { // P21.3: its last four bits are none of the 16 bytes'
	const letters = "ABCDEFGHIJKLMNOPQRSTUVWXYZabcdefghijklmnopqrstuvwxyz0123456789-_"
	for i := range letters {
		s := strings.Repeat("A", 21) + letters[i:i+1]
		if i%16 == 0 {
			wantToken(t, s, 0, uint64(i/16))
		} else {
			wantNoToken(t, s)
		}
		wantAsSecond(t, letters[i:i+1]+strings.Repeat("A", 21))
	}
}

func TestTokensTurned(t *testing.T) { // P21.3, P21.5
	is := 0
	for _, s := range []string{cred.Token(0, 0), cred.Token(7, 9), cred.Token(math.MaxUint64, math.MaxUint64), cred.Token(1<<63, 1)} {
		turns(s, func(s string) {
			if wantAsSecond(t, s) {
				is++
			}
		})
	}
	want(t, "some are tokens", is, 4*(21*63+3))
}

func TestTokenPlays(t *testing.T) { // P21.3, P21.5
	r := rand.New(rand.NewSource(21))
	seen := map[string]int{}
	for range 20000 {
		n, draw := r.Uint64()>>r.Intn(64), r.Uint64()>>r.Intn(64)
		s := cred.Token(n, draw)
		wantToken(t, s, n, draw)
		want(t, "the second telling", s, secondToken(n, draw))
		seen[s]++
		b := make([]byte, r.Intn(30))
		r.Read(b)
		wantAsSecond(t, string(b))
		wantAsSecond(t, s[:r.Intn(23)]+string(b))
		for i := range b {
			b[i] = "AQgw-_z9="[int(b[i])%9]
		}
		wantAsSecond(t, string(b))
	}
	if len(seen) < 19000 {
		t.Errorf("%d unlike tokens", len(seen))
	}
}
