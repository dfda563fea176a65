package http_test

import (
	"slices"
	"strconv"
	"strings"
	"testing"

	"atrium/api"
	"atrium/http"
)

func TestExamples(t *testing.T) {
	s := "GET /a HTTP/1.1\r\nHost: x\r\n\r\n"
	r := api.Request{Method: "GET", Target: "/a", Fields: []api.Field{{Name: "Host", Value: "x"}}}
	wantRequest(t, s, r, 28)
	wantNone(t, "GET /a HTTP/1.1\r\n\r\n", api.ErrHead)
	wantNone(t, "GET /a HTTP/1.1\r\nHost: x\r\nContent-Length: 9000\r\n\r\n", api.ErrBig)
}

func TestOrdinary(t *testing.T) { // P17.1
	s := "POST /sessions?a=%20b HTTP/1.1\r\nHost: h.example:80\r\nContent-Length:5\r\nX-a:\t 1 \t2 \r\nx-A:\r\nConnection: Close\r\n\r\nab\r\n\x00rest"
	wantRequest(t, s, api.Request{Method: "POST", Target: "/sessions?a=%20b", Fields: []api.Field{
		{Name: "Host", Value: "h.example:80"}, {Name: "Content-Length", Value: "5"}, {Name: "X-a", Value: "1 \t2"}, {Name: "x-A"}, {Name: "Connection", Value: "Close"},
	}, Body: "ab\r\n\x00", Close: true}, len(s)-4)
}

func TestNoHeadYet(t *testing.T) { // P17.1: no bytes, and a head that is cut off at each place
	wantNone(t, "", api.ErrNone)
	for _, s := range []string{with(), with("A: b", "Content-Length: 0"), wide(t, 4096)} {
		for i := range len(s) {
			wantNone(t, s[:i], api.ErrNone)
		}
		wantPart(t, s)
	}
	for i := range len("x\r\n\r\n") { // of what will be no request, too
		wantNone(t, "x\r\n\r\n"[:i], api.ErrNone)
	}
	for _, s := range []string{"\n", "\r", "\n\n", "\r\r", "\r\n\r", "\n\r\n", "\r\n\n", "GET / HTTP/1.1\n\n", "\x00\xFF", strings.Repeat("\r\n x", 1000), strings.Repeat("\r\n\r ", 1000), strings.Repeat("\r\n\n", 1000)} {
		wantNone(t, s, api.ErrNone)
	}
	for _, s := range []string{"\r\n\r\n", "x\r\n\r\n", "\r\n\r\n" + with(), "\r\n" + with(), "\r\n\r\n\r\n"} { // an end with no head ahead of it
		wantNone(t, s, api.ErrHead)
	}
}

func TestWideHeads(t *testing.T) { // P17.1: around MaxHead
	for size := 4090; size <= 4096; size++ {
		s := wide(t, size)
		wantPart(t, s)
		r, n, e := http.Parse(s + "GET")
		if e != api.OK || n != size || len(r.Fields) != 2 {
			t.Errorf("a head of %d: %d, %d", size, n, e)
		}
	}
	for size := 4097; size <= 4103; size++ { // its end begins within MaxHead bytes, or behind them
		s := wide(t, size)
		for i := range len(s) + 1 {
			should := api.ErrNone
			if i >= 4096 {
				should = api.ErrWide
			}
			wantNone(t, s[:i], should)
		}
		wantNone(t, s+strings.Repeat("x", 10000), api.ErrWide)
	}
	for _, b := range []string{"x", "\r", "\n", "\x00", "\xFF"} {
		wantNone(t, strings.Repeat(b, 4095), api.ErrNone)
		for _, n := range []int{4096, 4097, 5000, 100000} {
			wantNone(t, strings.Repeat(b, n), api.ErrWide)
		}
	}
	wantNone(t, strings.Repeat("x", 4092)+"\r\n\r\n", api.ErrHead) // an end within MaxHead bytes, of a head that is not right
	wantNone(t, strings.Repeat("x", 4093)+"\r\n\r\n", api.ErrWide)
	wantNone(t, strings.Repeat("x", 4092)+"\r\n\r\n"+with(), api.ErrHead)
}

func TestWideAndBody(t *testing.T) { // P17.1, P17.6: the body does not count as head
	s := with("Content-Length: 8192", "A: ")
	s = with("Content-Length: 8192", "A: "+strings.Repeat("a", 4096-len(s)))
	want(t, "the head", len(s), 4096)
	body := strings.Repeat("b\x00\r\n", 2048)
	r := wantPart(t, s+body)
	want(t, "the body", r.Body, body)
	wantNone(t, s, api.ErrNone)
	wantNone(t, s+body[1:], api.ErrNone)
	_, n, e := http.Parse(s + body + body)
	want(t, "more behind", e, api.OK)
	want(t, "the greatest size", n, 4096+8192)
}

func TestMethods(t *testing.T) { // P17.1
	for n := range 20 {
		wantMay(t, head(strings.Repeat("M", n)+" / HTTP/1.1", "Host: x"), n >= 1 && n <= 16)
	}
	for b := range 256 {
		c := string([]byte{byte(b)})
		great := strings.Contains("ABCDEFGHIJKLMNOPQRSTUVWXYZ", c)
		for _, method := range []string{c, c + "A", "A" + c, "A" + c + "Z"} {
			s := head(method+" / HTTP/1.1", "Host: x")
			wantMay(t, s, great)
			if great {
				want(t, "Method", wantPart(t, s).Method, method)
			}
		}
	}
	for _, method := range []string{"get", "Get", "GEt", "geT", "GET1", "M-SEARCH", "GÉT", "G\tT"} {
		wantNone(t, head(method+" / HTTP/1.1", "Host: x"), api.ErrHead)
	}
}

func TestTargets(t *testing.T) { // P17.1
	for _, n := range []int{1, 2, 1023, 1024, 1025, 1026, 2000} {
		target := "/" + strings.Repeat("t", n-1)
		s := head("GET "+target+" HTTP/1.1", "Host: x")
		wantMay(t, s, n <= 1024)
		if n <= 1024 {
			want(t, "Target", wantPart(t, s).Target, target)
		}
	}
	for b := range 256 {
		c := string([]byte{byte(b)})
		for _, target := range []string{"/" + c, "/a" + c + "b", "/" + c + "/"} {
			s := head("GET "+target+" HTTP/1.1", "Host: x")
			wantMay(t, s, b >= 0x21 && b <= 0x7E)
			if b >= 0x21 && b <= 0x7E {
				want(t, "Target", wantPart(t, s).Target, target)
			}
		}
		wantMay(t, head("GET "+c+" HTTP/1.1", "Host: x"), c == "/") // with no slash ahead
		wantMay(t, head("GET "+c+"/ HTTP/1.1", "Host: x"), c == "/")
	}
	for _, target := range []string{"", "*", "a", "a/b", "http://x/", "x:80", "?/", "/a b", " /", "/ ", "/a\tb", "/é"} {
		wantNone(t, head("GET "+target+" HTTP/1.1", "Host: x"), api.ErrHead)
	}
	for _, target := range []string{"/", "//", "/?", "/a?b=c&d#e", "/%zz", "/%", "/\"<>\\^`{|}"} { // what stands in it is not looked at here
		want(t, "Target", wantPart(t, head("GET "+target+" HTTP/1.1", "Host: x")).Target, target)
	}
}

func TestRequestLines(t *testing.T) { // P17.1
	for _, line := range []string{
		"", " ", "  ", "GET", "GET ", "GET /", "GET / ", "GET/ HTTP/1.1", "GET /HTTP/1.1", "GET/HTTP/1.1", "GET HTTP/1.1", "/ HTTP/1.1", " / HTTP/1.1", "HTTP/1.1",
		" GET / HTTP/1.1", "GET  / HTTP/1.1", "GET /  HTTP/1.1", "GET / HTTP/1.1 ", "GET / HTTP/1.1\t", "GET / / HTTP/1.1", "GET / HTTP/1.1 x",
		"GET\t/ HTTP/1.1", "GET /\tHTTP/1.1", "GET  HTTP/1.1", "GET / HTTP/1.1\r", "\rGET / HTTP/1.1", "\nGET / HTTP/1.1", "GET / HTTP/1.1\n", "GET /\r HTTP/1.1", "GET /\n HTTP/1.1",
		"GET / HTTP/1.0", "GET / HTTP/1.2", "GET / HTTP/2", "GET / HTTP/1.", "GET / HTTP/1.11", "GET / HTTP/01.1", "GET / http/1.1", "GET / Http/1.1", "GET / HTTPS/1.1", "GET / HTTP 1.1", "GET / XTTP/1.1", "GET / HTTP/1,1", "GET / ",
		"Host: x",
	} {
		wantNone(t, head(line, "Host: x"), api.ErrHead)
	}
	wantPart(t, head("GET / HTTP/1.1", "Host: x"))
}

func TestLineEnds(t *testing.T) { // P17.1
	for _, s := range []string{
		"GET / HTTP/1.1\nHost: x\r\n\r\n", "GET / HTTP/1.1\r\nHost: x\nA: b\r\n\r\n", "GET / HTTP/1.1\r\nHost: x\n\r\n\r\n", "GET / HTTP/1.1\r\nA: b\nHost: x\r\n\r\n",
		"GET / HTTP/1.1\rHost: x\r\n\r\n", "GET / HTTP/1.1\r\nHost: x\rA: b\r\n\r\n", "GET / HTTP/1.1\r\nHost: x\r\r\n\r\n", "GET / HTTP/1.1\r\nHost: x\r\n\r\r\n\r\n", "GET / HTTP/1.1\r\nHost:\r x\r\n\r\n",
		"GET / HTTP/1.1\r\n\nHost: x\r\n\r\n", "GET / HTTP/1.1\r\n\rHost: x\r\n\r\n", "GET / HTTP/1.1\r\nHost\r: x\r\n\r\n", "GET / HTTP/1.1\r\nHost: x\n\nA: b\r\n\r\n", "GET / HTTP/1.1\n\r\nHost: x\r\n\r\n",
		"GET / HTTP/1.1\r\nHost: x\r\n b\r\n\r\n", "GET / HTTP/1.1\r\nHost: x\r\n\tb: c\r\n\r\n", "GET / HTTP/1.1\r\n Host: x\r\n\r\n", // no line goes on
	} {
		wantNone(t, s, api.ErrHead)
	}
	for _, s := range []string{"GET / HTTP/1.1\nHost: x\n\n", "GET / HTTP/1.1\r\nHost: x\r\n\n", "GET / HTTP/1.1\r\nHost: x\n\r\n", "GET / HTTP/1.1\r\nHost: x\r\n\r\r\n"} {
		wantNone(t, s, api.ErrNone)
	}
}

func TestNames(t *testing.T) { // P17.1
	const token = "!#$%&'*+-.^_`|~0123456789abcdefghijklmnopqrstuvwxyzABCDEFGHIJKLMNOPQRSTUVWXYZ"
	for b := range 256 {
		c := string([]byte{byte(b)})
		is := strings.Contains(token, c)
		for _, name := range []string{c, c + "a", "a" + c, "a" + c + "b"} {
			if b == ':' { // the first colon ends the name
				continue
			}
			s := with(name + ": v")
			wantMay(t, s, is)
			if is {
				want(t, "the field", wantPart(t, s).Fields[1], api.Field{Name: name, Value: "v"})
			}
		}
	}
	for _, line := range []string{":", ": v", ":v", " : v", "a : v", "a\t: v", " a: v", "\ta: v", "a b: v", "a", "a v", "a=v", "é: v", "a\x00: v", ":a: v", "\"a\": v", "a;: v"} {
		wantNone(t, with(line), api.ErrHead)
		wantNone(t, head("GET / HTTP/1.1", line, "Host: x"), api.ErrHead)
	}
	long := strings.Repeat("n", 3000)
	want(t, "a long name", wantPart(t, with(long+":v")).Fields[1].Name, long)
	want(t, "the first colon", wantPart(t, with("a:b:c: d")).Fields[1], api.Field{Name: "a", Value: "b:c: d"})
	want(t, "as it was written", wantPart(t, with("X-aBc: 1")).Fields[1].Name, "X-aBc")
	wantNone(t, head("GET / HTTP/1.1", "Host : x"), api.ErrHead)
}

func TestValues(t *testing.T) { // P17.1: each byte, alone and within, and what stands around
	for b := range 256 {
		c := string([]byte{byte(b)})
		is := b == 9 || b >= 0x20 && b <= 0x7E || b >= 0x80
		for _, value := range []string{c, c + "v", "v" + c, "v" + c + "w"} {
			for _, line := range []string{"A:" + value, "A: " + value, "A: \t" + value + "\t "} {
				s := with(line)
				wantMay(t, s, is)
				if is {
					want(t, "the field", wantPart(t, s).Fields[1], api.Field{Name: "A", Value: strings.Trim(value, " \t")})
				}
			}
		}
	}
	for line, value := range map[string]string{
		"A:": "", "A: ": "", "A:\t": "", "A: \t \t": "", "A:v": "v", "A: v": "v", "A:  v": "v", "A:\tv": "v", "A: v ": "v", "A:v\t": "v", "A: \tv \t": "v",
		"A: a b": "a b", "A: a\tb": "a\tb", "A: a \t b ": "a \t b", "A: :": ":", "A: \"": "\"", "A: é\xFF\x80": "é\xFF\x80", "A: \u00A0": "\u00A0", "A: \xA0": "\xA0", "A:\u3000x\u3000": "\u3000x\u3000", "A: \x85": "\x85",
	} {
		want(t, line, wantPart(t, with(line)).Fields[1], api.Field{Name: "A", Value: value})
	}
	long := strings.Repeat("v ", 1999) + "v"
	want(t, "a long value", wantPart(t, with("A: "+long)).Fields[1].Value, long)
}

func TestManyFields(t *testing.T) { // P17.1
	for _, n := range []int{0, 1, 2, 31, 32, 33, 34, 100} {
		var lines []string
		for i := range n {
			lines = append(lines, "F"+strconv.Itoa(i)+": "+strconv.Itoa(i))
		}
		wantNone(t, head(append([]string{"GET / HTTP/1.1"}, lines...)...), api.ErrHead) // no host
		if n == 0 {
			continue
		}
		lines[n/2] = "HOST:h"
		s := head(append([]string{"GET / HTTP/1.1"}, lines...)...)
		wantMay(t, s, n <= 32)
		if n > 32 {
			continue
		}
		r := wantPart(t, s)
		want(t, "how many", len(r.Fields), n)
		for i, f := range r.Fields {
			should := api.Field{Name: "F" + strconv.Itoa(i), Value: strconv.Itoa(i)}
			if i == n/2 {
				should = api.Field{Name: "HOST", Value: "h"}
			}
			want(t, "in their order", f, should)
		}
	}
	same := slices.Repeat([]string{"a: b"}, 31)
	wantPart(t, with(same...))
	wantNone(t, with(append(same, "a: b")...), api.ErrHead)
}

func TestHost(t *testing.T) { // P17.1
	for _, name := range []string{"Host", "host", "HOST", "hOsT"} {
		wantPart(t, head("GET / HTTP/1.1", name+": x"))
		wantPart(t, head("GET / HTTP/1.1", "A: b", name+": x", "B: c"))
		for _, other := range []string{"Host", "host", "HOST", "HoSt"} {
			wantNone(t, head("GET / HTTP/1.1", name+": x", other+": x"), api.ErrHead)
			wantNone(t, head("GET / HTTP/1.1", name+": x", "A: b", other+": y"), api.ErrHead)
		}
	}
	for _, value := range []string{"", "x", "x y", "a,b", "é", "[::1]:80"} { // whatever it says
		want(t, "Value", wantPart(t, head("GET / HTTP/1.1", "Host: "+value)).Fields[0].Value, value)
	}
	for _, line := range []string{"Hos: x", "Hosts: x", "X-Host: x", "Ho-st: x", "A: Host"} {
		wantNone(t, head("GET / HTTP/1.1", line), api.ErrHead)
	}
	wantNone(t, with("host: x", "Host: x"), api.ErrHead)
}

func TestContentLength(t *testing.T) { // P17.1
	nines := strings.Repeat("9", 18)
	for said, should := range map[string]api.Errno{
		"": api.ErrHead, "00": api.ErrHead, "01": api.ErrHead, "08192": api.ErrHead, "000000000000000000": api.ErrHead, strings.Repeat("0", 19): api.ErrHead, "0" + strings.Repeat("9", 30): api.ErrHead,
		"8193": api.ErrBig, "9000": api.ErrBig, "10000": api.ErrBig, "99999": api.ErrBig, nines: api.ErrBig, "100000000000000000": api.ErrBig,
		nines + "9": api.ErrBig, "1000000000000000000": api.ErrBig, "9223372036854775807": api.ErrBig, "9223372036854775808": api.ErrBig, "18446744073709551616": api.ErrBig, "18446744073709551617": api.ErrBig, strings.Repeat("1", 3000): api.ErrBig,
		"x": api.ErrHead, "-1": api.ErrHead, "-0": api.ErrHead, "+1": api.ErrHead, "1.0": api.ErrHead, "1e3": api.ErrHead, "0x10": api.ErrHead, "1 2": api.ErrHead, "1\t2": api.ErrHead, "1, 1": api.ErrHead, "1,1": api.ErrHead, "1_0": api.ErrHead, "５": api.ErrHead, "\xB2": api.ErrHead, "3x": api.ErrHead, "x3": api.ErrHead,
		nines + "x": api.ErrHead, "x" + nines: api.ErrHead, nines + " 9": api.ErrHead, strings.Repeat("1", 20) + "-": api.ErrHead, strings.Repeat("1", 10) + "," + strings.Repeat("1", 10): api.ErrHead, strings.Repeat("1", 30) + "/" + "1": api.ErrHead, strings.Repeat("1", 30) + ":1": api.ErrHead,
	} {
		for _, line := range []string{"Content-Length:" + said, "content-length: " + said, "CONTENT-LENGTH: \t" + said + " "} {
			wantNone(t, with(line), should)
			wantNone(t, with(line)+strings.Repeat("b", 20000), should)
		}
	}
	for size := 17; size <= 40; size++ {
		wantNone(t, with("Content-Length: "+strings.Repeat("7", size)), api.ErrBig)
		wantNone(t, with("Content-Length: 0"+strings.Repeat("7", size)), api.ErrHead)
		wantNone(t, with("Content-Length: "+strings.Repeat("7", size)+"a"), api.ErrHead)
	}
	for _, said := range []string{"0", "1", "3", "8192", "8193", "x", ""} { // twice, alike or not
		for _, again := range []string{"0", "3", said} {
			wantNone(t, with("Content-Length: "+said, "content-length: "+again)+"abc", api.ErrHead)
			wantNone(t, with("Content-Length: "+said, "A: b", "Content-Length: "+again)+"abc", api.ErrHead)
		}
	}
	want(t, "another field", wantPart(t, with("X-Content-Length: 3", "Content-Lengths: x")).Body, "")
}

func TestBodies(t *testing.T) { // P17.1: one byte short, whole, with more behind
	bytes := strings.Repeat("b\r\n\r\n\x00\xFF", 2000)
	for _, n := range []int{0, 1, 2, 3, 9, 10, 99, 100, 1000, 8190, 8191, 8192} {
		s := with("Content-Length: " + strconv.Itoa(n))
		if n > 0 {
			wantNone(t, s, api.ErrNone)
			wantNone(t, s+bytes[:n-1], api.ErrNone)
		}
		r := api.Request{Method: "GET", Target: "/", Fields: []api.Field{{Name: "Host", Value: "x"}, {Name: "Content-Length", Value: strconv.Itoa(n)}}, Body: bytes[:n]}
		wantRequest(t, s+bytes[:n], r, len(s)+n)
		wantRequest(t, s+bytes[:n+1], r, len(s)+n)
		wantRequest(t, s+bytes, r, len(s)+n)
	}
	want(t, "none without a length", wantPart(t, with()).Body, "")
	_, n, e := http.Parse(with() + "abc")
	want(t, "none without a length", n, len(with()))
	want(t, "none without a length", e, api.OK)
}

func TestTransferEncoding(t *testing.T) { // P17.1
	for _, line := range []string{"Transfer-Encoding: chunked", "transfer-encoding: identity", "TRANSFER-ENCODING:", "Transfer-encoding: x"} {
		wantNone(t, with(line), api.ErrHead)
		wantNone(t, with("Content-Length: 3", line)+"abc", api.ErrHead)
		wantNone(t, with(line, "Content-Length: 9000"), api.ErrHead)
	}
	wantPart(t, with("X-Transfer-Encoding: chunked", "TE: chunked", "A: transfer-encoding"))
}

func TestClose(t *testing.T) { // P17.1
	for _, x := range []struct {
		lines  []string
		closes bool
	}{
		{nil, false}, {[]string{"Connection: close"}, true}, {[]string{"connection:close"}, true}, {[]string{"CONNECTION: CLOSE"}, true}, {[]string{"CoNnEcTiOn: \t cLoSe \t"}, true},
		{[]string{"Connection: keep-alive"}, false}, {[]string{"Connection:"}, false}, {[]string{"Connection: close, x"}, false}, {[]string{"Connection: keep-alive, close"}, false}, {[]string{"Connection: closed"}, false}, {[]string{"Connection: clos"}, false}, {[]string{"Connection: \"close\""}, false}, {[]string{"Connection: c lose"}, false}, {[]string{"Connection: clo\u017Fe"}, false},
		{[]string{"Connection: close", "Connection: close"}, true}, {[]string{"Connection: close", "Connection: keep-alive"}, true}, {[]string{"Connection: keep-alive", "A: b", "connection: Close"}, true}, {[]string{"Connection: x", "Connection: y"}, false},
		{[]string{"X-Connection: close"}, false}, {[]string{"Connections: close"}, false}, {[]string{"A: close"}, false}, {[]string{"Close: connection"}, false}, {[]string{"Proxy-Connection: close"}, false},
	} {
		want(t, strings.Join(x.lines, ", "), wantPart(t, with(x.lines...)).Close, x.closes)
	}
}

func TestWhichFault(t *testing.T) { // P17.1: ErrHead ahead of ErrBig, ErrBig ahead of ErrNone; none waits for the body
	wantNone(t, head("GET / HTTP/1.1", "Content-Length: 9000"), api.ErrHead)
	wantNone(t, head("get / HTTP/1.1", "Host: x", "Content-Length: 9000"), api.ErrHead)
	wantNone(t, head("GET / HTTP/1.1", "Host: x", "Content-Length: 9000", "a b: c"), api.ErrHead)
	wantNone(t, head("GET / HTTP/1.1", "Host: x", "Content-Length: 9000", "Host: y"), api.ErrHead)
	wantNone(t, head("GET / HTTP/1.1", "Host: x", "Content-Length: 9000", "A: \x00"), api.ErrHead)
	wantNone(t, with(append(slices.Repeat([]string{"a: b"}, 31), "Content-Length: 9000")...), api.ErrHead)
	wantNone(t, with("Content-Length: 9000"), api.ErrBig)
	wantNone(t, with("Content-Length: 9000")+strings.Repeat("b", 9000), api.ErrBig)
	wantNone(t, head("get / HTTP/1.1", "Host: x", "Content-Length: 10"), api.ErrHead)
	wantNone(t, "x"+with("Content-Length: 9000")+strings.Repeat("x", 5000), api.ErrHead)
	wantNone(t, with("Content-Length: 10"), api.ErrNone)
	wantNone(t, strings.Repeat("x", 5000)+with(), api.ErrWide) // an end, but too late
}

func TestOneBehindTheOther(t *testing.T) { // P17.1, P17.5
	within := with("A: bc") + "more"
	parts := []string{with(), with("Content-Length: 3") + "abc", head("DELETE /a/b HTTP/1.1", "host: y", "connection: close"), with("Content-Length: 4") + "\r\n\r\n", with("Content-Length: 0"), with("Content-Length: "+strconv.Itoa(len(within))) + within}
	s := strings.Join(parts, "")
	for i, part := range parts {
		r, n, e := http.Parse(s)
		if n != len(part) || e != api.OK {
			t.Fatalf("request %d: %d of %d, %d", i, n, len(part), e)
		}
		wantRequest(t, part, r, n)
		s = s[n:]
	}
	wantNone(t, s, api.ErrNone)
}

func TestAnswersAreApart(t *testing.T) { // R3
	s := with("A: b")
	a := wantPart(t, s)
	b := wantPart(t, s)
	a.Fields[0].Name = "turned"
	a.Fields = append(a.Fields[:1], api.Field{Name: "more"})
	want(t, "another answer", b.Fields[0].Name, "Host")
	want(t, "another answer", b.Fields[1].Name, "A")
	want(t, "a later answer", wantPart(t, s).Fields[0].Name, "Host")
}
