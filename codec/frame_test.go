package codec_test

import (
	"math/rand"
	"strings"
	"testing"

	"atrium/api"
	"atrium/codec"
)

// sum is the check sum's bytes.
func sum(s string) string {
	n := codec.Crc(s)
	return string([]byte{byte(n >> 24), byte(n >> 16), byte(n >> 8), byte(n)})
}

// wantFrame is what Unframe should tell.
func wantFrame(t *testing.T, s string, kind uint8, body string, size int, e api.Errno) {
	t.Helper()
	k, b, n, got := codec.Unframe(s)
	want(t, "kind", k, kind)
	want(t, "its body", b == body, true)
	want(t, "size", n, size)
	want(t, "told", got, e)
}

// wantNone is what Unframe should tell of what is none.
func wantNone(t *testing.T, s string, e api.Errno) {
	t.Helper()
	wantFrame(t, s, 0, "", 0, e)
}

func TestFrame(t *testing.T) { // P2.5
	for _, x := range []struct {
		kind uint8
		body string
		head string
	}{
		{7, "", "DF\x07\x00\x00\x00\x00\x00"},
		{0, "ab", "DF\x00\x00\x00\x00\x00\x02"},
		{255, strings.Repeat("\x00", 300), "DF\xff\x00\x00\x00\x01\x2c"},
	} {
		s, e := codec.Frame(x.kind, x.body)
		want(t, "Frame", e, api.OK)
		wantText(t, "Frame", s, x.head+x.body+sum(x.head+x.body))
		for _, behind := range []string{"", "x", "DF", s} {
			wantFrame(t, s+behind, x.kind, x.body, 12+len(x.body), api.OK)
		}
	}
}

func TestFrameAtItsLimit(t *testing.T) { // P2.5
	body := strings.Repeat("x", api.MaxFrame)
	s, e := codec.Frame(1, body)
	want(t, "Frame", e, api.OK)
	wantFrame(t, s, 1, body, api.MaxFrame+12, api.OK)
	wantNone(t, s[:len(s)-1], api.ErrShort)
	s, e = codec.Frame(1, body+"x")
	want(t, "beyond it", e, api.ErrLong)
	want(t, "beyond it", s, "")
	head := "DF\x01\x00\x00\x10\x00\x01"
	wantNone(t, head+body+"x"+sum(head+body+"x"), api.ErrForm)
}

func TestUnframeRefuses(t *testing.T) { // P2.5
	s, _ := codec.Frame(7, "body")
	for n := range len(s) {
		wantNone(t, s[:n], api.ErrShort)
	}
	for i := range s {
		for bit := range 8 {
			b := []byte(s)
			b[i] ^= 1 << bit
			_, _, _, e := codec.Unframe(string(b))
			switch {
			case i < 2 || i == 3:
				want(t, "the mark, the nought", e, api.ErrForm)
			case i >= 4 && i < 8:
				want(t, "the number", e != api.OK, true)
			default:
				want(t, "kind, body, sum", e, api.ErrSum)
			}
		}
	}
	wantNone(t, s[:len(s)-4]+sum(s[:len(s)-4])[:3]+"?", api.ErrSum)
}

func TestUnframeTellsTheFirst(t *testing.T) { // P2.5, R2
	wantNone(t, "", api.ErrShort)
	wantNone(t, "XX\x00\x01\xff\xff\xff", api.ErrShort)        // ahead of the mark
	wantNone(t, "XF\x00\x00\x00\x00\x00\x09", api.ErrForm)     // ahead of the bytes that are not there
	wantNone(t, "DX\x00\x00\x00\x00\x00\x00????", api.ErrForm) // ahead of the sum
	wantNone(t, "DF\x00\x01\x00\x00\x00\x09", api.ErrForm)
	wantNone(t, "DF\x00\x00\x00\x10\x00\x01", api.ErrForm) // above MaxFrame
	wantNone(t, "DF\x00\x00\xff\xff\xff\xff", api.ErrForm)
	wantNone(t, "DF\x00\x00\x00\x10\x00\x00????", api.ErrShort) // just MaxFrame
	wantNone(t, "DF\x00\x00\x00\x00\x00\x01x???", api.ErrShort) // one byte too few
	wantNone(t, "DF\x00\x00\x00\x00\x00\x01x????", api.ErrSum)
	wantNone(t, "df\x00\x00\x00\x00\x00\x00????", api.ErrForm)
	wantNone(t, "DF\x00\x00\x00\x00\x00\x00\x00???", api.ErrSum)
	wantNone(t, "FD\x00\x00\x00\x00\x00\x00\x00????", api.ErrForm)
}

func TestUnframeOfFrame(t *testing.T) { // P2.9
	r := rand.New(rand.NewSource(11))
	for range 3000 {
		kind, body := uint8(r.Intn(256)), randomText(r, 100)
		s, e := codec.Frame(kind, body)
		want(t, "Frame", e, api.OK)
		wantFrame(t, s+randomText(r, 20), kind, body, len(s), api.OK)
	}
}

// turned is s with the bits of a pattern turned, from a bit on.
func turned(s string, at int, pattern uint32) string {
	b := []byte(s)
	for i := range 32 {
		if pattern>>i&1 == 1 && at+i < 8*len(b) {
			b[(at+i)/8] ^= 1 << ((at + i) % 8)
		}
	}
	return string(b)
}

func TestTurnedBitsAreTold(t *testing.T) { // P2.9
	r := rand.New(rand.NewSource(12))
	body := "some body of a frame, \x00\xff\x00"
	s, _ := codec.Frame(3, body)
	for at := range 8 * len(body) {
		for p := range uint32(300) {
			pattern := p | 1
			if p >= 128 {
				pattern = r.Uint32() | 1
			}
			damaged := s[:8] + turned(body, at, pattern) + s[8+len(body):]
			wantNone(t, damaged, api.ErrSum)
		}
	}
}
