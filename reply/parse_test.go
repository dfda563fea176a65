package reply_test

import (
	"slices"
	"strconv"
	"strings"
	"testing"

	"atrium/api"
	"atrium/reply"
)

// samples are replies of each Status, with and without each part.
func samples() []api.Reply {
	var l []api.Reply
	for _, x := range statuses() {
		for i, body := range []string{"", "x", `{"a":"b"}`, strings.Repeat("\r\n", 60)} {
			for _, cookie := range []string{"", "sid=x; Path=/", strings.Repeat("c", 256)} {
				if x.number != 204 || i == 0 {
					l = append(l, api.Reply{Status: x.number, Body: body, Cookie: cookie}, api.Reply{Status: x.number, Body: body, Cookie: cookie, Close: true})
				}
			}
		}
	}
	return l
}

func TestCutOff(t *testing.T) { // P18.2, P18.4: at each place more must come, and no reply's bytes begin another one's
	for _, r := range samples() {
		s := bytesOf(r)
		for i := range len(s) {
			wantNone(t, s[:i], api.ErrShort)
		}
		wantMay(t, "a sample", r)
	}
	s := bytesOf(api.Reply{Status: 200, Body: strings.Repeat("b", 65536)})
	for _, i := range []int{1, 70, 100, 1000, len(s) - 2, len(s) - 1} {
		wantNone(t, s[:i], api.ErrShort)
	}
}

func TestTurned(t *testing.T) { // P18.2: each byte in each place, also where the text ends there
	for _, r := range []api.Reply{{Status: 200}, {Status: 204, Close: true}, {Status: 201, Body: "{}", Cookie: "sid=x", Close: true}, {Status: 431, Body: strings.Repeat("b", 12)}, {Status: 507, Cookie: "c"}} {
		s := bytesOf(r)
		for i := range len(s) {
			for b := range 256 {
				turned := s[:i] + string([]byte{byte(b)})
				wantAsSecond(t, turned)
				wantAsSecond(t, turned+s[i+1:])
				wantAsSecond(t, turned+s[i:])
			}
			wantAsSecond(t, s[:i]+s[i+1:])
		}
	}
}

func TestNoReply(t *testing.T) { // P18.2
	wantNone(t, "", api.ErrShort)
	for _, s := range []string{
		"x", " ", "\r\n", "h", "HTTP/1.0", "HTTP/1.1  ", "HTTP/1.1 1", "HTTP/1.1 6", "HTTP/1.1 202", "HTTP/1.1 2000", "HTTP/1.1 200 Ok", "HTTP/1.1 200 OK\n", "HTTP/1.1 200 OK ", "HTTP/1.1 200 Created\r\n", "HTTP/1.1 201 OK\r\n", "HTTP/1.1 200  OK", "HTTP/1.1 0200", "HTTP/1.1 -200", "\x00", "HTTP/1.1 200\r\n", "HTTP/2 200 OK",
		"\r\n" + bytesOf(api.Reply{Status: 200}), " " + bytesOf(api.Reply{Status: 200}),
	} {
		wantNone(t, s, api.ErrReply)
	}
	for _, s := range []string{"H", "HTTP/1.1", "HTTP/1.1 ", "HTTP/1.1 2", "HTTP/1.1 4", "HTTP/1.1 43", "HTTP/1.1 50", "HTTP/1.1 200 O", "HTTP/1.1 200 OK", "HTTP/1.1 200 OK\r", "HTTP/1.1 200 OK\r\n", "HTTP/1.1 200 OK\r\nContent-", "HTTP/1.1 204 No Content\r\n", "HTTP/1.1 204 No Content\r\n\r", "HTTP/1.1 204 No Content\r\nC", "HTTP/1.1 204 No Content\r\nS"} {
		wantNone(t, s, api.ErrShort)
	}
}

// The lines of heads.
const (
	first    = "HTTP/1.1 200 OK\r\n"
	nothing  = "HTTP/1.1 204 No Content\r\n"
	typed    = "Content-Type: application/json\r\n"
	two      = "Content-Length: 2\r\n"
	nought   = "Content-Length: 0\r\n"
	cookie   = "Set-Cookie: a=b\r\n"
	closes   = "Connection: close\r\n"
	emptyEnd = "\r\n"
)

func TestLines(t *testing.T) { // P18.2: in another order, twice, missing
	wantParse(t, first+typed+two+cookie+closes+emptyEnd+"{}", api.Reply{Status: 200, Body: "{}", Cookie: "a=b", Close: true}, len(first+typed+two+cookie+closes+emptyEnd)+2)
	for _, s := range []string{
		first + two + typed, first + typed + cookie, first + typed + two + closes + cookie, first + cookie, first + closes, first + nought + typed, first + typed + closes, typed, two, cookie, closes, emptyEnd,
		first + typed + typed, first + typed + two + two, first + typed + two + typed, first + nought + nought, first + nought + two, first + nought + cookie + cookie, first + nought + closes + closes, first + nought + cookie + closes + cookie, first + first, first + typed + first,
		first + emptyEnd, first + typed + emptyEnd, first + two + emptyEnd, first + cookie + emptyEnd, typed + two + emptyEnd, first + typed + two + cookie + "{}", first + typed + two + "{}",
		nothing + nought, nothing + two, nothing + typed, nothing + typed + two, nothing + cookie + nought, nothing + "Content", nothing + "Cont", nothing + cookie + "Cont",
		first + "content-length: 0", first + "Content-length", first + "Content-Type: text", first + "Content-Type:application/json", first + "Content-Length:0", first + "Content-Length : 0", first + nought + "Set-cookie", first + nought + "Set-Cookie:a", first + nought + "Connection: Close", first + nought + "Connection: keep", first + nought + "X-A: b", first + nought + "Connection: close ", first + "Content-Type: application/json ", first + "Content-Type: application/json;",
		first + nought + "\n", first + nought + "x", first + nought + "\r\r", first + "\r", first + "\n", first + nought + "Content", first + nought + cookie + "S", first + nought + closes + "C", first + nought + closes + "S",
	} {
		wantNone(t, s, api.ErrReply)
		wantAsSecond(t, s)
		wantNone(t, s+"more", api.ErrReply)
	}
	for _, s := range []string{first + typed, first + typed + two, first + nought, first + nought + cookie, first + nought + closes, nothing + cookie, nothing + cookie + closes, first + typed + two + emptyEnd, first + typed + two + emptyEnd + "{", first + nought + "Con", first + nought + "S", nothing + cookie + "Con"} {
		wantNone(t, s, api.ErrShort)
		wantAsSecond(t, s)
	}
}

func TestLengths(t *testing.T) { // P18.2: what a Content-Length may say, digit by digit
	body := strings.Repeat("b", 70000)
	for n := range 70000 {
		said := strconv.Itoa(n)
		ahead := first + typed + "Content-Length: " + said
		if n == 0 || n > 65536 {
			wantNone(t, ahead, api.ErrReply)
			wantNone(t, ahead+"\r\n\r\n"+body[:n], api.ErrReply)
			continue
		}
		wantNone(t, ahead, api.ErrShort)
		if n > 0 && n < 300 || n > 65500 || n%1000 < 2 {
			wantNone(t, ahead+"\r\n\r\n"+body[:n-1], api.ErrShort)
			wantParse(t, ahead+"\r\n\r\n"+body[:n+1], api.Reply{Status: 200, Body: body[:n]}, len(ahead)+4+n)
		}
		if n < 7000 && n%7 == 0 || n > 6000 && n < 7000 { // of a number above it the next digit tells
			for _, digit := range []string{"0", "5", "6", "7", "9"} {
				wantAsSecond(t, ahead+digit)
			}
		}
	}
	for _, said := range []string{"00", "01", "02", "065536", "65537", "65540", "66000", "70000", "99999", "100000", "655360", "1000000", "9223372036854775808", "18446744073709551618", strings.Repeat("9", 100), "-1", "-", "+2", " 2", "2 ", "2x", "x", "2.", "0x2", "２", "2\n", "2\r\r", "\r\n", "", "2,2", "1_0"} {
		ahead := first + typed + "Content-Length: " + said
		if said != "" {
			wantNone(t, ahead, api.ErrReply)
		}
		wantNone(t, ahead+"\r\n\r\n"+body, api.ErrReply)
		wantAsSecond(t, ahead)
	}
	for _, said := range []string{"1", "2", "9", "00", "01", "10", "65536", "x", "-0", "\r\n", " 0", "0 ", "0\n"} { // with no type
		wantNone(t, first+"Content-Length: "+said, api.ErrReply)
		wantNone(t, first+"Content-Length: "+said+"\r\n\r\nb", api.ErrReply)
	}
	for _, s := range []string{first + "Content-Length: ", first + "Content-Length: 0", first + "Content-Length: 0\r", first + typed + "Content-Length: ", first + typed + "Content-Length: 6553", first + typed + "Content-Length: 65536", first + typed + "Content-Length: 65536\r"} {
		wantNone(t, s, api.ErrShort)
	}
}

func TestCookieLines(t *testing.T) { // P18.2
	for _, ahead := range []string{nothing, first + nought} {
		for n := range 300 {
			s := ahead + "Set-Cookie: " + strings.Repeat("c", n)
			should := api.ErrShort
			if n > 256 {
				should = api.ErrReply
			}
			wantNone(t, s, should)
			if n == 0 || n > 256 {
				wantNone(t, s+"\r", api.ErrReply)
				wantNone(t, s+"\r\n\r\n", api.ErrReply)
				continue
			}
			wantNone(t, s+"\r", api.ErrShort)
			wantNone(t, s+"\r\n", api.ErrShort)
			wantNone(t, s+"\rx", api.ErrReply)
			status := 200
			if ahead == nothing {
				status = 204
			}
			wantParse(t, s+"\r\n\r\nmore", api.Reply{Status: status, Cookie: strings.Repeat("c", n)}, len(s)+4)
		}
		for b := range 256 {
			c := string([]byte{byte(b)})
			for _, s := range []string{ahead + "Set-Cookie: " + c, ahead + "Set-Cookie: a" + c, ahead + "Set-Cookie: a" + c + "b\r\n\r\n", ahead + "Set-Cookie: " + strings.Repeat("c", 255) + c, ahead + "Set-Cookie: " + strings.Repeat("c", 256) + c} {
				wantAsSecond(t, s)
			}
		}
	}
}

// wantAll is what All tells.
func wantAll(t *testing.T, s string, should []api.Reply, at int, e api.Errno) {
	t.Helper()
	l, place, err := reply.All(s)
	if !slices.Equal(l, should) || place != at || err != e {
		t.Errorf("All of %s: %d replies up to %d, %d, not %d up to %d, %d", short(s), len(l), place, err, len(should), at, e)
	}
}

func TestAll(t *testing.T) { // P18.2, P18.4
	wantAll(t, "", nil, 0, api.OK)
	wantAll(t, "H", nil, 0, api.ErrShort)
	wantAll(t, "x", nil, 0, api.ErrReply)
	var l []api.Reply
	s := ""
	for _, r := range samples() {
		l, s = append(l, r), s+bytesOf(r)
		wantAll(t, s, l, len(s), api.OK)
	}
	for _, rest := range []string{"H", "HTTP/1.1 ", first, first + typed + two + emptyEnd + "{", bytesOf(l[3])[:20]} {
		wantAll(t, s+rest, l, len(s), api.ErrShort)
		wantAll(t, rest, nil, 0, api.ErrShort)
	}
	for _, rest := range []string{"x", "\r\n", " ", "HTTP/1.0", first + "x", "\x00" + s, first + typed + "Content-Length: 65537"} {
		wantAll(t, s+rest, l, len(s), api.ErrReply)
		wantAll(t, rest, nil, 0, api.ErrReply)
		wantAll(t, rest+s, nil, 0, api.ErrReply)
	}
	wantAll(t, s+"x"+s, l, len(s), api.ErrReply) // nothing behind what is none
}

func TestAllCutOff(t *testing.T) { // P18.2: at each place
	l := []api.Reply{{Status: 200, Body: "{}", Cookie: "a=b"}, {Status: 204}, {Status: 400, Body: "\r\n\r\n", Close: true}, {Status: 200}}
	s, ends := "", []int{0}
	for _, r := range l {
		s += bytesOf(r)
		ends = append(ends, len(s))
	}
	for i := range len(s) + 1 {
		n := 0
		for n < len(l) && ends[n+1] <= i {
			n++
		}
		should := api.ErrShort
		if ends[n] == i {
			should = api.OK
		}
		wantAll(t, s[:i], l[:n], ends[n], should)
	}
}

func TestAnswersAreApart(t *testing.T) { // R3
	s := bytesOf(api.Reply{Status: 200}) + bytesOf(api.Reply{Status: 204})
	a, _, _ := reply.All(s)
	a[0].Status = 500
	a = append(a[:1], api.Reply{Status: 404})
	want(t, "turned", a[1].Status, 404)
	wantAll(t, s, []api.Reply{{Status: 200}, {Status: 204}}, len(s), api.OK)
}
