package reply_test

import (
	"math"
	"strconv"
	"strings"
	"testing"

	"atrium/api"
	"atrium/reply"
)

func TestExample(t *testing.T) {
	s, e := reply.Write(api.Reply{Status: 404, Body: `{"error":"none"}`})
	want(t, "Write", e, api.OK)
	want(t, "Write", s, "HTTP/1.1 404 Not Found\r\nContent-Type: application/json\r\nContent-Length: 16\r\n\r\n{\"error\":\"none\"}")
}

func TestWrite(t *testing.T) { // P18.1: each line, there or not
	for _, x := range []struct {
		r api.Reply
		s string
	}{
		{api.Reply{Status: 200}, "HTTP/1.1 200 OK\r\nContent-Length: 0\r\n\r\n"},
		{api.Reply{Status: 204}, "HTTP/1.1 204 No Content\r\n\r\n"},
		{api.Reply{Status: 204, Close: true}, "HTTP/1.1 204 No Content\r\nConnection: close\r\n\r\n"},
		{api.Reply{Status: 204, Cookie: "a=b", Close: true}, "HTTP/1.1 204 No Content\r\nSet-Cookie: a=b\r\nConnection: close\r\n\r\n"},
		{api.Reply{Status: 201, Body: "x"}, "HTTP/1.1 201 Created\r\nContent-Type: application/json\r\nContent-Length: 1\r\n\r\nx"},
		{api.Reply{Status: 401, Cookie: " "}, "HTTP/1.1 401 Unauthorized\r\nContent-Length: 0\r\nSet-Cookie:  \r\n\r\n"},
		{api.Reply{Status: 431, Body: "\r\n\x00\xFF", Cookie: "~", Close: true}, "HTTP/1.1 431 Request Header Fields Too Large\r\nContent-Type: application/json\r\nContent-Length: 4\r\nSet-Cookie: ~\r\nConnection: close\r\n\r\n\r\n\x00\xFF"},
		{api.Reply{Status: 503, Close: true}, "HTTP/1.1 503 Service Unavailable\r\nContent-Length: 0\r\nConnection: close\r\n\r\n"},
	} {
		s, e := reply.Write(x.r)
		want(t, "Write", s, x.s)
		want(t, "Write", e, api.OK)
		wantMay(t, x.s, x.r)
	}
}

func TestStatuses(t *testing.T) { // P18.1: each one that is, and others
	words := map[int]string{}
	for _, x := range statuses() {
		words[x.number] = x.words
	}
	for n := -1000; n <= 2000; n++ {
		want(t, "Words of "+strconv.Itoa(n), reply.Words(n), words[n])
		if words[n] != "" {
			wantMay(t, strconv.Itoa(n), api.Reply{Status: n})
			wantMay(t, strconv.Itoa(n), api.Reply{Status: n, Cookie: "a=b", Close: true})
			continue
		}
		wantNot(t, strconv.Itoa(n), api.Reply{Status: n})
		wantNot(t, strconv.Itoa(n), api.Reply{Status: n, Body: "{}", Cookie: "a", Close: true})
	}
	for _, n := range []int{math.MinInt, math.MaxInt, 1<<32 + 200, -200, 20000} {
		want(t, "Words", reply.Words(n), "")
		wantNot(t, strconv.Itoa(n), api.Reply{Status: n})
	}
	want(t, "how many", len(words), 13)
}

func TestBodies(t *testing.T) { // P18.1, P18.4
	for _, x := range statuses() {
		for _, n := range []int{0, 1, 2, 9, 10, 99, 100, 999, 1000, 9999, 10000, 65535, 65536, 65537, 65538, 100000} {
			r := api.Reply{Status: x.number, Body: strings.Repeat("b", n)}
			if n > 65536 || n > 0 && x.number == 204 {
				wantNot(t, "a body of "+strconv.Itoa(n), r)
			} else {
				wantMay(t, "a body of "+strconv.Itoa(n), r)
			}
		}
	}
	for b := range 256 {
		wantMay(t, "a body's byte", api.Reply{Status: 200, Body: string([]byte{byte(b)})})
	}
	for _, body := range []string{"\r\n", "\r\n\r\n", bytesOf(api.Reply{Status: 200, Body: "{}"}), "HTTP/1.1 200 OK\r\n", "no JSON", "\x00"} {
		wantMay(t, body, api.Reply{Status: 507, Body: body})
		wantNot(t, body, api.Reply{Status: 204, Body: body})
	}
}

func TestCookies(t *testing.T) { // P18.1, P18.4
	for _, n := range []int{0, 1, 2, 255, 256, 257, 258, 10000} {
		for _, x := range statuses() {
			r := api.Reply{Status: x.number, Cookie: strings.Repeat("c", n)}
			if n > 256 {
				wantNot(t, "a cookie of "+strconv.Itoa(n), r)
			} else {
				wantMay(t, "a cookie of "+strconv.Itoa(n), r)
			}
		}
	}
	for b := range 256 {
		c := string([]byte{byte(b)})
		for _, cookie := range []string{c, c + "a", "a" + c, "a" + c + "b", strings.Repeat("a", 255) + c} {
			r := api.Reply{Status: 200, Body: "{}", Cookie: cookie}
			if b >= 32 && b <= 126 {
				wantMay(t, "a cookie's byte "+strconv.Itoa(b), r)
			} else {
				wantNot(t, "a cookie's byte "+strconv.Itoa(b), r)
			}
		}
	}
	for _, cookie := range []string{" ", "  a  ", "Connection: close", "sid=x; Path=/; HttpOnly", "\"", ":"} {
		wantMay(t, cookie, api.Reply{Status: 201, Cookie: cookie, Close: true})
	}
	for _, cookie := range []string{"a\r\nb", "\r\n", "a\r", "a\n", "é", "\t"} {
		wantNot(t, cookie, api.Reply{Status: 201, Cookie: cookie})
	}
}

func TestError(t *testing.T) { // P18.3
	for _, x := range statuses() {
		r := reply.Error(x.number, "none")
		want(t, "Error", r, api.Reply{Status: x.number, Body: `{"error":"none"}`, Close: x.number == 400 || x.number == 413 || x.number == 431})
		if x.number == 204 { // it has a body
			wantNot(t, "204", r)
		} else {
			wantMay(t, strconv.Itoa(x.number), r)
		}
	}
	for _, word := range []string{"", "a", "two words", "\"", "\\", "\n", "\x00\xFF", "é", `"},{"`, strings.Repeat("w", 1000)} { // as it is
		for _, n := range []int{400, 401, 413, 431, 500} {
			r := reply.Error(n, word)
			want(t, word, r, api.Reply{Status: n, Body: `{"error":"` + word + `"}`, Close: n == 400 || n == 413 || n == 431})
			wantMay(t, word, r)
		}
	}
	for _, n := range []int{0, -1, 199, 202, 402, 414, 432, 600, math.MinInt, math.MaxInt} {
		r := reply.Error(n, "x")
		want(t, "a Status that is none", r, api.Reply{Status: n, Body: `{"error":"x"}`})
		wantNot(t, "a Status that is none", r)
	}
	wantMay(t, "the longest word", reply.Error(404, strings.Repeat("w", 65536-12)))
	wantNot(t, "one more", reply.Error(404, strings.Repeat("w", 65536-11)))
}
