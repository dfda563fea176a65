package http_test

import (
	"regexp"
	"slices"
	"strconv"
	"strings"
	"testing"

	"atrium/api"
	"atrium/http"
)

// want fails the test, if what was told is not what should be.
func want[T comparable](t *testing.T, what string, got, should T) {
	t.Helper()
	if got != should {
		t.Errorf("%s: %v, not %v", what, got, should)
	}
}

// wantList is want of lists, of which nil and the empty one are the same.
func wantList[T comparable](t *testing.T, what string, got, should []T) {
	t.Helper()
	if !slices.Equal(got, should) {
		t.Errorf("%s: %v, not %v", what, got, should)
	}
}

// short is bytes that may be shown.
func short(s string) string {
	if len(s) > 200 {
		return strconv.Quote(s[:200]) + " .. of " + strconv.Itoa(len(s))
	}
	return strconv.Quote(s)
}

// same tells whether two requests are the same in each field.
func same(a, b api.Request) bool {
	return a.Method == b.Method && a.Target == b.Target && a.Body == b.Body && a.Close == b.Close && slices.Equal(a.Fields, b.Fields)
}

// wantRequest is that bytes begin with a request of a size.
func wantRequest(t *testing.T, s string, should api.Request, size int) {
	t.Helper()
	r, n, e := http.Parse(s)
	if e != api.OK || n != size || !same(r, should) {
		t.Errorf("Parse of %s: %+v of %d, %d, not %+v of %d", short(s), r, n, e, should, size)
	}
}

// wantNone is that Parse refuses bytes, and tells nothing else.
func wantNone(t *testing.T, s string, should api.Errno) {
	t.Helper()
	r, n, e := http.Parse(s)
	if e != should || n != 0 || !same(r, api.Request{}) {
		t.Errorf("Parse of %s: %+v of %d, %d, not %d", short(s), r, n, e, should)
	}
}

// wantPart is that Parse takes bytes, all of them; its request.
func wantPart(t *testing.T, s string) api.Request {
	t.Helper()
	r, n, e := http.Parse(s)
	if e != api.OK || n != len(s) {
		t.Errorf("Parse of %s: %d, %d of %d", short(s), e, n, len(s))
	}
	return r
}

// wantMay is that a head is right, or that it is ErrHead, by whether it should be.
func wantMay(t *testing.T, s string, may bool) {
	t.Helper()
	if may {
		wantPart(t, s)
	} else {
		wantNone(t, s, api.ErrHead)
	}
}

// wantCheck is what Check tells, and what Print does of it: a request's bytes are read again, whatever stands behind.
func wantCheck(t *testing.T, what string, r api.Request, should api.Errno) {
	t.Helper()
	want(t, what+": Check", http.Check(r), should)
	s, e := http.Print(r)
	want(t, what+": Print", e, should)
	if should != api.OK {
		want(t, what+": nothing", s, "")
		return
	}
	want(t, what+": its bytes", s, bytesOf(r))
	for _, behind := range []string{"", "x", "\r\n", "\r\n\r\n", s, "GET / HTTP/1.1\r\n", strings.Repeat("\x00", 20000)} {
		wantRequest(t, s+behind, r, len(s))
	}
}

// head is the bytes of a head whose lines are these.
func head(lines ...string) string {
	return strings.Join(lines, "\r\n") + "\r\n\r\n"
}

// with is a right head of GET / with a Host and these lines.
func with(lines ...string) string {
	return head(append([]string{"GET / HTTP/1.1", "Host: x"}, lines...)...)
}

// bytesOf is a request's bytes as the chapter says them.
func bytesOf(r api.Request) string {
	lines := []string{r.Method + " " + r.Target + " HTTP/1.1"}
	for _, f := range r.Fields {
		lines = append(lines, f.Name+": "+f.Value)
	}
	return head(lines...) + r.Body
}

// wide is a right head of so many bytes: some fields, the last of which fills it up.
func wide(t *testing.T, size int) string {
	t.Helper()
	s := with("A: ")
	s = with("A: " + strings.Repeat("v", size-len(s)))
	want(t, "a head's size", len(s), size)
	return s
}

// The second reader: it asks the library's regular expressions of bytes as runes below 256.
var (
	wholeHead = regexp.MustCompile(`^([A-Z]{1,16}) (/[!-~]*) HTTP/1\.1\r\n((?:[^\r\n]*\r\n)*)\r\n$`)
	fieldLine = regexp.MustCompile("^([-!#$%&'*+.^_`|~0-9A-Za-z]+):[ \t]*((?:[\t -~\u0080-\u00FF]*[!-~\u0080-\u00FF])?)[ \t]*$")
	numbers   = regexp.MustCompile(`^(?:0|[1-9][0-9]*)$`)
)

// latin is bytes as runes, narrow is the way back.
func latin(s string) string {
	var l []rune
	for i := range len(s) {
		l = append(l, rune(s[i]))
	}
	return string(l)
}

func narrow(s string) string {
	var l []byte
	for _, r := range s {
		l = append(l, byte(r))
	}
	return string(l)
}

// readHead is what the second reader tells of a head.
func readHead(s string) (r api.Request, is bool) {
	parts := wholeHead.FindStringSubmatch(latin(s))
	if parts == nil || len(parts[2]) > 1024 {
		return r, false
	}
	r.Method, r.Target = parts[1], parts[2]
	lines := strings.Split(parts[3], "\r\n")
	for _, line := range lines[:len(lines)-1] {
		f := fieldLine.FindStringSubmatch(line)
		if f == nil {
			return r, false
		}
		r.Fields = append(r.Fields, api.Field{Name: f[1], Value: narrow(f[2])})
	}
	return r, len(r.Fields) <= 32
}

// valuesOf is the values of a name.
func valuesOf(r api.Request, name string) []string {
	var l []string
	for _, f := range r.Fields {
		if strings.EqualFold(f.Name, name) {
			l = append(l, f.Value)
		}
	}
	return l
}

// second is what the second reader tells of any bytes.
func second(s string) (api.Request, int, api.Errno) {
	end := 4
	for end <= len(s) && end <= 4096 && s[end-4:end] != "\r\n\r\n" {
		end++
	}
	if end > len(s) && end <= 4096 {
		return api.Request{}, 0, api.ErrNone
	}
	if end > 4096 {
		return api.Request{}, 0, api.ErrWide
	}
	r, is := readHead(s[:end])
	said := valuesOf(r, "Content-Length")
	if !is || len(valuesOf(r, "Host")) != 1 || len(valuesOf(r, "Transfer-Encoding")) != 0 || len(said) > 1 || len(said) == 1 && !numbers.MatchString(said[0]) {
		return api.Request{}, 0, api.ErrHead
	}
	body := 0
	if len(said) == 1 {
		n, err := strconv.Atoi(said[0])
		if err != nil || n > 8192 {
			return api.Request{}, 0, api.ErrBig
		}
		body = n
	}
	if len(s) < end+body {
		return api.Request{}, 0, api.ErrNone
	}
	r.Body = s[end : end+body]
	for _, value := range valuesOf(r, "Connection") {
		r.Close = r.Close || strings.EqualFold(value, "close") && len(value) == 5
	}
	return r, end + body, api.OK
}

// wantAsSecond holds Parse against the second reader; what it told.
func wantAsSecond(t *testing.T, s string) (api.Request, int, api.Errno) {
	t.Helper()
	r, n, e := http.Parse(s)
	should, size, err := second(s)
	if e != err || n != size || !same(r, should) {
		t.Errorf("Parse of %s: %+v of %d, %d, not %+v of %d, %d", short(s), r, n, e, should, size, err)
	}
	return r, n, e
}
