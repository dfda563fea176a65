package reply_test

import (
	"bufio"
	"io"
	"math/rand"
	library "net/http"
	"strconv"
	"strings"
	"testing"

	"atrium/api"
	"atrium/reply"
)

// anyReply is a reply that may be.
func anyReply(r *rand.Rand) api.Reply {
	x := statuses()[r.Intn(13)]
	a := api.Reply{Status: x.number, Close: r.Intn(2) == 0}
	if x.number != 204 && r.Intn(4) > 0 {
		b := make([]byte, r.Intn(30))
		for i := range b {
			b[i] = byte(r.Intn(256))
		}
		a.Body = string(b)
	}
	if r.Intn(2) == 0 {
		b := make([]byte, r.Intn(20))
		for i := range b {
			b[i] = byte(32 + r.Intn(95))
		}
		a.Cookie = string(b)
	}
	return a
}

func TestPlays(t *testing.T) { // P18.1, P18.2, P18.4: replies one behind the other, whole, cut off, and with pieces of others in them
	r := rand.New(rand.NewSource(18))
	told := map[api.Errno]int{}
	pieces := []string{"\r\n", "\r", "\n", " ", "0", "1", "9", "Content-Length: ", "Set-Cookie: ", closes, typed, nought, first, nothing, "x", "\x00"}
	for range 3000 {
		var l []api.Reply
		s := ""
		for range r.Intn(4) + 1 {
			a := anyReply(r)
			l, s = append(l, a), s+wantMay(t, "a play", a)
		}
		wantAll(t, s, l, len(s), api.OK)
		told[wantAsSecond(t, s[:r.Intn(len(s)+1)])]++
		for range 4 {
			i := r.Intn(min(len(s), 150))
			turned := s[:i] + pieces[r.Intn(len(pieces))] + s[i+r.Intn(2):]
			told[wantAsSecond(t, turned)]++
			told[wantAsSecond(t, turned[:r.Intn(len(turned)+1)])]++
		}
	}
	for _, e := range []api.Errno{api.OK, api.ErrShort, api.ErrReply} {
		if told[e] < 500 {
			t.Errorf("%d was told %d times", e, told[e])
		}
	}
}

func TestAnyBytes(t *testing.T) { // R1, P18.2
	r := rand.New(rand.NewSource(182))
	for range 3000 {
		b := make([]byte, r.Intn(60))
		for i := range b {
			b[i] = byte(r.Intn(256))
		}
		wantAsSecond(t, string(b))
		wantAsSecond(t, "HTTP/1.1 200 OK\r\n"+string(b))
		wantAsSecond(t, "HTTP/1.1 200 OK\r\nContent-Length: 0\r\n"+string(b))
		wantAsSecond(t, "HTTP/1.1 204 No Content\r\nSet-Cookie: "+string(b))
	}
}

func TestLibraryReads(t *testing.T) { // P18.1: what Write tells is a reply of HTTP/1.1, as the library reads it
	r := rand.New(rand.NewSource(181))
	for range 1000 {
		a := anyReply(r)
		s := wantMay(t, "a play", a)
		found, err := library.ReadResponse(bufio.NewReader(strings.NewReader(s)), nil)
		if err != nil {
			t.Fatalf("the library does not read %q: %v", s, err)
		}
		body, err := io.ReadAll(found.Body)
		if err != nil || string(body) != a.Body || found.Status != strconv.Itoa(a.Status)+" "+reply.Words(a.Status) || found.Close != a.Close || found.Header.Get("Set-Cookie") != strings.Trim(a.Cookie, " ") {
			t.Errorf("the library reads %q otherwise: %+v, %v", s, found, err)
		}
	}
}
