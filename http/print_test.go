package http_test

import (
	"slices"
	"strconv"
	"strings"
	"testing"

	"atrium/api"
	"atrium/http"
)

// plain is a request that may be, with these fields behind its Host.
func plain(fields ...api.Field) api.Request {
	return api.Request{Method: "GET", Target: "/a", Fields: append([]api.Field{{Name: "Host", Value: "x"}}, fields...)}
}

// okOr is OK, if a request may be.
func okOr(e api.Errno, may bool) api.Errno {
	if may {
		return api.OK
	}
	return e
}

// sized is one with a body, and a content-length.
func sized(body string, said string) api.Request {
	r := plain(api.Field{Name: "Content-Length", Value: said})
	r.Body = body
	return r
}

func TestPrint(t *testing.T) { // P17.2
	r := sized("a\r\n\x00\xFF", "5")
	r.Method, r.Target, r.Close = "POST", "/a?b", true
	r.Fields = append(r.Fields, api.Field{Name: "x-Y"}, api.Field{Name: "Connection", Value: "CLOSE"}, api.Field{Name: "a", Value: "b \t c: \xE9"})
	s, e := http.Print(r)
	want(t, "Print", e, api.OK)
	want(t, "Print", s, "POST /a?b HTTP/1.1\r\nHost: x\r\nContent-Length: 5\r\nx-Y: \r\nConnection: CLOSE\r\na: b \t c: \xE9\r\n\r\na\r\n\x00\xFF")
	wantCheck(t, "all of it", r, api.OK)
	wantCheck(t, "the least", api.Request{Method: "A", Target: "/", Fields: []api.Field{{Name: "host"}}}, api.OK)
	wantCheck(t, "nothing", api.Request{}, api.ErrHead)
}

func TestCheckMethod(t *testing.T) { // P17.2
	for n := range 20 {
		r := plain()
		r.Method = strings.Repeat("M", n)
		wantCheck(t, "a method of "+strconv.Itoa(n), r, okOr(api.ErrHead, n >= 1 && n <= 16))
	}
	for b := range 256 {
		r := plain()
		r.Method = "A" + string([]byte{byte(b)})
		wantCheck(t, "a method's byte "+strconv.Itoa(b), r, okOr(api.ErrHead, b >= 'A' && b <= 'Z'))
	}
	for _, method := range []string{"get", "Get", "GET ", " GET", "GET /", "GET\r\n", "A B", "GET / HTTP/1.1\r\nHost: x\r\n\r\nGET"} {
		r := plain()
		r.Method = method
		wantCheck(t, method, r, api.ErrHead)
	}
}

func TestCheckTarget(t *testing.T) { // P17.2
	for _, n := range []int{1, 2, 1023, 1024, 1025, 3000} {
		r := plain()
		r.Target = "/" + strings.Repeat("t", n-1)
		wantCheck(t, "a target of "+strconv.Itoa(n), r, okOr(api.ErrHead, n <= 1024))
	}
	for b := range 256 {
		r := plain()
		r.Target = "/a" + string([]byte{byte(b)})
		wantCheck(t, "a target's byte "+strconv.Itoa(b), r, okOr(api.ErrHead, b >= 0x21 && b <= 0x7E))
	}
	for _, target := range []string{"", "a", "*", " /", "/ ", "/ HTTP/1.1", "/ HTTP/1.1\r\nA: b", "?/"} {
		r := plain()
		r.Target = target
		wantCheck(t, target, r, api.ErrHead)
	}
}

func TestCheckNames(t *testing.T) { // P17.2
	const token = "!#$%&'*+-.^_`|~0123456789abcdefghijklmnopqrstuvwxyzABCDEFGHIJKLMNOPQRSTUVWXYZ"
	for b := range 256 {
		c := string([]byte{byte(b)})
		wantCheck(t, "a name's byte "+strconv.Itoa(b), plain(api.Field{Name: "a" + c, Value: "v"}), okOr(api.ErrHead, strings.Contains(token, c)))
	}
	for _, name := range []string{"", " ", "a ", " a", "a:", ":", "a b", "a: b\r\nc", "a\r\n", "é"} {
		wantCheck(t, name, plain(api.Field{Name: name, Value: "v"}), api.ErrHead)
		wantCheck(t, name+" of nothing", plain(api.Field{Name: name}), api.ErrHead)
	}
}

func TestCheckValues(t *testing.T) { // P17.2: blanks and tabs around it are no value's
	for b := range 256 {
		c := string([]byte{byte(b)})
		within := b == 9 || b >= 0x20 && b <= 0x7E || b >= 0x80
		around := within && b != 9 && b != ' '
		for value, may := range map[string]bool{"v" + c + "w": within, c: around, c + "v": around, "v" + c: around} {
			wantCheck(t, strconv.Quote(value), plain(api.Field{Name: "A", Value: value}), okOr(api.ErrHead, may))
		}
	}
	for _, value := range []string{" ", "\t", " v", "v ", "\tv", "v\t", "  v  ", "v\r\nB: c", "v\n", "\r\n", "v\r\n w", "\x7F"} {
		wantCheck(t, strconv.Quote(value), plain(api.Field{Name: "A", Value: value}), api.ErrHead)
	}
	for _, value := range []string{"", "v", "a b", "a\tb", "a \t b", "é", "\xFF", ":", "a: b", "\u00A0"} {
		wantCheck(t, strconv.Quote(value), plain(api.Field{Name: "A", Value: value}), api.OK)
	}
}

func TestCheckFields(t *testing.T) { // P17.2: their count; host, content-length, transfer-encoding
	field := api.Field{Name: "a", Value: "b"}
	wantCheck(t, "32", plain(slices.Repeat([]api.Field{field}, 31)...), api.OK)
	wantCheck(t, "33", plain(slices.Repeat([]api.Field{field}, 32)...), api.ErrHead)
	wantCheck(t, "very many", plain(slices.Repeat([]api.Field{field}, 100000)...), api.ErrHead)
	wantCheck(t, "none", api.Request{Method: "GET", Target: "/"}, api.ErrHead)
	wantCheck(t, "no host", api.Request{Method: "GET", Target: "/", Fields: []api.Field{field}}, api.ErrHead)
	wantCheck(t, "small", api.Request{Method: "GET", Target: "/", Fields: []api.Field{{Name: "host", Value: "x"}}}, api.OK)
	wantCheck(t, "great", api.Request{Method: "GET", Target: "/", Fields: []api.Field{field, {Name: "HOST"}}}, api.OK)
	wantCheck(t, "twice", plain(api.Field{Name: "Host", Value: "x"}), api.ErrHead)
	wantCheck(t, "twice, in other letters", plain(api.Field{Name: "hOST", Value: "y"}), api.ErrHead)
	for _, name := range []string{"Transfer-Encoding", "transfer-encoding", "TRANSFER-encoding"} {
		wantCheck(t, name, plain(api.Field{Name: name, Value: "chunked"}), api.ErrHead)
		wantCheck(t, name, plain(api.Field{Name: name}), api.ErrHead)
	}
}

func TestCheckBody(t *testing.T) { // P17.2: the content-length is the Body's
	for _, n := range []int{0, 1, 2, 9, 10, 99, 100, 8191, 8192} {
		body := strings.Repeat("b", n)
		wantCheck(t, "a body", sized(body, strconv.Itoa(n)), api.OK)
		wantCheck(t, "one more is said", sized(body, strconv.Itoa(n+1)), api.ErrHead)
		wantCheck(t, "one fewer is said", sized(body, strconv.Itoa(n-1)), api.ErrHead)
		wantCheck(t, "a nought ahead", sized(body, "0"+strconv.Itoa(n)), api.ErrHead)
		wantCheck(t, "a blank behind", sized(body, strconv.Itoa(n)+" "), api.ErrHead)
		r := plain()
		r.Body = body
		wantCheck(t, "nothing is said", r, okOr(api.ErrHead, n == 0))
		r = sized(body, strconv.Itoa(n))
		r.Fields = append(r.Fields, api.Field{Name: "content-length", Value: strconv.Itoa(n)})
		wantCheck(t, "it is said twice", r, api.ErrHead)
	}
	for _, said := range []string{"", "x", "-0", "00", "+0", "9000", "8193", strings.Repeat("9", 19), strings.Repeat("9", 40), "18446744073709551616"} {
		wantCheck(t, "no body, "+said, sized("", said), api.ErrHead)
		wantCheck(t, "a body, "+said, sized("abc", said), api.ErrHead)
	}
	wantCheck(t, "the name in other letters", api.Request{Method: "GET", Target: "/", Fields: []api.Field{{Name: "CONTENT-LENGTH", Value: "1"}, {Name: "HOST"}}, Body: "\x00"}, api.OK)
	wantCheck(t, "whatever bytes", sized("\r\n\r\nGET / HTTP/1.1\r\n\xFF\x00", "22"), api.OK)
}

func TestCheckClose(t *testing.T) { // P17.2: Close and its field go together
	for _, x := range []struct {
		values []string
		closes bool
	}{
		{nil, false}, {[]string{"close"}, true}, {[]string{"CLOSE"}, true}, {[]string{"Close"}, true}, {[]string{"keep-alive"}, false}, {[]string{""}, false}, {[]string{"close, x"}, false}, {[]string{"closed"}, false},
		{[]string{"close", "close"}, true}, {[]string{"x", "close"}, true}, {[]string{"close", "x"}, true}, {[]string{"x", "y"}, false},
	} {
		for _, name := range []string{"Connection", "connection", "CONNECTION"} {
			r := plain()
			for _, value := range x.values {
				r.Fields = append(r.Fields, api.Field{Name: name, Value: value})
			}
			r.Close = x.closes
			wantCheck(t, strings.Join(x.values, " and "), r, api.OK)
			r.Close = !x.closes
			wantCheck(t, "the other way round: "+strings.Join(x.values, " and "), r, api.ErrHead)
		}
	}
	r := plain(api.Field{Name: "Connection", Value: "close "})
	r.Close = true
	wantCheck(t, "a value with a blank", r, api.ErrHead)
}

// ofHead is a request whose printed head has so many bytes.
func ofHead(size int, fields ...api.Field) api.Request {
	r := plain(append(fields, api.Field{Name: "A"})...)
	last := &r.Fields[len(r.Fields)-1]
	last.Value = strings.Repeat("v", size-len(bytesOf(r)))
	return r
}

func TestCheckWide(t *testing.T) { // P17.2: a head of MaxHead bytes, and one more
	for size := 4090; size <= 4096; size++ {
		wantCheck(t, "a head of "+strconv.Itoa(size), ofHead(size), api.OK)
	}
	for _, size := range []int{4097, 4098, 4100, 5000, 100000} {
		wantCheck(t, "a head of "+strconv.Itoa(size), ofHead(size), api.ErrWide)
	}
	many := slices.Repeat([]api.Field{{Name: "b", Value: "c"}}, 30) // it would fit, if no blank stood ahead of the values
	for size := 4096; size <= 4140; size++ {
		wantCheck(t, "a head of many fields", ofHead(size, many...), okOr(api.ErrWide, size == 4096))
	}
	r := plain(api.Field{Name: strings.Repeat("n", 5000)})
	wantCheck(t, "a wide name", r, api.ErrWide)
	r = ofHead(4096, api.Field{Name: "Content-Length", Value: "8192"})
	r.Body = strings.Repeat("b", 8192)
	wantCheck(t, "the greatest", r, api.OK)
	s, _ := http.Print(r)
	want(t, "the greatest size", len(s), 4096+8192) // P17.6
}

func TestCheckWhich(t *testing.T) { // P17.2, R2: ErrBig, ErrHead, ErrWide
	big := strings.Repeat("b", 8193)
	wantCheck(t, "big", sized(big, "8193"), api.ErrBig)
	wantCheck(t, "very big", sized(strings.Repeat("b", 100000), "100000"), api.ErrBig)
	wantCheck(t, "big, and another length", sized(big, "8192"), api.ErrBig)
	wantCheck(t, "big, and no length", api.Request{Method: "GET", Target: "/", Fields: []api.Field{{Name: "Host"}}, Body: big}, api.ErrBig)
	wantCheck(t, "big, and nothing else", api.Request{Body: big}, api.ErrBig)
	r := ofHead(5000, api.Field{Name: "Content-Length", Value: "8193"})
	r.Body = big
	wantCheck(t, "big and wide", r, api.ErrBig)
	r.Body = big[:8192]
	wantCheck(t, "not right and wide", r, api.ErrHead)
	r.Fields[1].Value = "8192"
	wantCheck(t, "wide", r, api.ErrWide)
	r.Method = "get"
	wantCheck(t, "wide, and another method", r, api.ErrHead)
	r.Method, r.Close = "GET", true
	wantCheck(t, "wide, and Close alone", r, api.ErrHead)
	r.Close, r.Target = false, "/"+strings.Repeat("t", 1024)
	wantCheck(t, "wide, and a long target", r, api.ErrHead)
	r.Target = "/" + strings.Repeat("t", 1023)
	wantCheck(t, "wide, and the longest target", r, api.ErrWide)
}

func TestGetAndAll(t *testing.T) { // P17.3
	r := plain(api.Field{Name: "Cookie", Value: "1"}, api.Field{Name: "A", Value: "a"}, api.Field{Name: "cookie", Value: "2"}, api.Field{Name: "E"}, api.Field{Name: "COOKIE", Value: "3"}, api.Field{Name: "e", Value: "x"})
	for _, x := range []struct {
		name string
		all  []string
	}{
		{"Host", []string{"x"}}, {"host", []string{"x"}}, {"HOST", []string{"x"}}, {"hOsT", []string{"x"}}, {"A", []string{"a"}}, {"a", []string{"a"}},
		{"Cookie", []string{"1", "2", "3"}}, {"cookie", []string{"1", "2", "3"}}, {"COOKIE", []string{"1", "2", "3"}}, {"e", []string{"", "x"}}, {"E", []string{"", "x"}},
		{"", nil}, {"B", nil}, {"Hos", nil}, {"Hosts", nil}, {" host", nil}, {"host ", nil}, {"x", nil}, {"coo\u212Aie", nil}, {"coo\u212Bie", nil}, {"\xFF", nil},
	} {
		value, is := http.Get(r, x.name)
		want(t, x.name, is, len(x.all) > 0)
		if len(x.all) > 0 {
			want(t, x.name, value, x.all[0])
		} else {
			want(t, x.name, value, "")
		}
		wantList(t, x.name, http.All(r, x.name), x.all)
	}
	for _, name := range []string{"", "host", "a"} {
		value, is := http.Get(api.Request{}, name)
		want(t, "of nothing", is, false)
		want(t, "of nothing", value, "")
		wantList(t, "of nothing", http.All(api.Request{}, name), nil)
	}
	odd := api.Request{Fields: []api.Field{{Name: "A B", Value: " \n"}, {Name: "", Value: "e"}, {Name: "\xC3\x89", Value: "é"}, {Name: "a b", Value: "2"}}} // of what may not be a request, too
	wantList(t, "no token", http.All(odd, "a b"), []string{" \n", "2"})
	wantList(t, "an empty name", http.All(odd, ""), []string{"e"})
	wantList(t, "a letter beyond ASCII", http.All(odd, "\xC3\xA9"), nil)
	wantList(t, "a letter beyond ASCII", http.All(odd, "\xC3\x89"), []string{"é"})
}

func TestArgumentsStay(t *testing.T) { // R3
	room := []api.Field{{Name: "Host", Value: "x"}, {Name: "A", Value: "1"}, {Name: "a", Value: "2"}, {Name: "behind", Value: "its end"}}
	r := api.Request{Method: "GET", Target: "/", Fields: room[:3]}
	kept := slices.Clone(room)
	http.Check(r)
	http.Print(r)
	http.Get(r, "A")
	all := http.All(r, "A")
	all = append(all[:1], "turned")
	all[0] = "turned"
	wantList(t, "what was handed in", room, kept)
	wantList(t, "a later answer", http.All(r, "A"), []string{"1", "2"})
}
