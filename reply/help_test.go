package reply_test

import (
	"regexp"
	"strconv"
	"strings"
	"testing"

	"atrium/api"
	"atrium/reply"
)

// want fails the test, if what was told is not what should be.
func want[T comparable](t *testing.T, what string, got, should T) {
	t.Helper()
	if got != should {
		t.Errorf("%s: %v, not %v", what, got, should)
	}
}

// short is bytes that may be shown.
func short(s string) string {
	if len(s) > 200 {
		return strconv.Quote(s[:200]) + " .. of " + strconv.Itoa(len(s))
	}
	return strconv.Quote(s)
}

// status is a Status and its words, as the chapter's table has them.
type status struct {
	number int
	words  string
}

func statuses() []status {
	return []status{
		{200, "OK"}, {201, "Created"}, {204, "No Content"},
		{400, "Bad Request"}, {401, "Unauthorized"}, {404, "Not Found"}, {405, "Method Not Allowed"},
		{413, "Content Too Large"}, {429, "Too Many Requests"}, {431, "Request Header Fields Too Large"},
		{500, "Internal Server Error"}, {503, "Service Unavailable"}, {507, "Insufficient Storage"},
	}
}

// bytesOf is a reply's bytes as the chapter says them.
func bytesOf(r api.Reply) string {
	s := "HTTP/1.1 " + strconv.Itoa(r.Status) + " "
	for _, x := range statuses() {
		if x.number == r.Status {
			s += x.words + "\r\n"
		}
	}
	if len(r.Body) > 0 {
		s += "Content-Type: application/json\r\n"
	}
	if r.Status != 204 {
		s += "Content-Length: " + strconv.Itoa(len(r.Body)) + "\r\n"
	}
	if len(r.Cookie) > 0 {
		s += "Set-Cookie: " + r.Cookie + "\r\n"
	}
	if r.Close {
		s += "Connection: close\r\n"
	}
	return s + "\r\n" + r.Body
}

// wantParse is that a text begins with a reply of a size.
func wantParse(t *testing.T, s string, should api.Reply, size int) {
	t.Helper()
	r, n, e := reply.Parse(s)
	if r != should || n != size || e != api.OK {
		t.Errorf("Parse of %s: %+v of %d, %d, not one of %d", short(s), r, n, e, size)
	}
}

// wantNone is that Parse refuses a text, and tells nothing else.
func wantNone(t *testing.T, s string, should api.Errno) {
	t.Helper()
	r, n, e := reply.Parse(s)
	if r != (api.Reply{}) || n != 0 || e != should {
		t.Errorf("Parse of %s: %+v of %d, %d, not %d", short(s), r, n, e, should)
	}
}

// wantMay is all that P18.1 and P18.4 say of a reply that may be; its bytes.
func wantMay(t *testing.T, what string, r api.Reply) string {
	t.Helper()
	want(t, what+": Check", reply.Check(r), api.OK)
	s, e := reply.Write(r)
	if e != api.OK || s != bytesOf(r) {
		t.Errorf("%s: Write: %s, %d, not %s", what, short(s), e, short(bytesOf(r)))
	}
	for _, behind := range []string{"", "x", "\r\n", "\r\n\r\n", "\x00", s, s[:len(s)/2], "Connection: close\r\n\r\n"} {
		wantParse(t, s+behind, r, len(s))
	}
	return s
}

// wantNot is that a reply may not be.
func wantNot(t *testing.T, what string, r api.Reply) {
	t.Helper()
	want(t, what+": Check", reply.Check(r), api.ErrReply)
	s, e := reply.Write(r)
	want(t, what+": Write", e, api.ErrReply)
	want(t, what+": nothing", s, "")
}

// pattern is the regular expressions of some texts, and of all that begins one of them.
type pattern struct {
	whole, begin string
}

// text is one text.
func text(s string) pattern {
	begin := ""
	for i := len(s) - 1; i >= 0; i-- {
		begin = "(?:" + regexp.QuoteMeta(s[i:i+1]) + begin + ")?"
	}
	return pattern{regexp.QuoteMeta(s), begin}
}

// some is from least to most characters of a class.
func some(class string, least, most int) pattern {
	return pattern{class + "{" + strconv.Itoa(least) + "," + strconv.Itoa(most) + "}", class + "{0," + strconv.Itoa(most) + "}"}
}

// behind is patterns one behind the other.
func behind(l ...pattern) pattern {
	all := pattern{}
	for i := len(l) - 1; i >= 0; i-- {
		all = pattern{l[i].whole + all.whole, "(?:" + l[i].begin + "|" + l[i].whole + all.begin + ")"}
	}
	return all
}

// either is one of patterns.
func either(l ...pattern) pattern {
	var whole, begin []string
	for _, p := range l {
		whole, begin = append(whole, p.whole), append(begin, p.begin)
	}
	return pattern{"(?:" + strings.Join(whole, "|") + ")", "(?:" + strings.Join(begin, "|") + ")"}
}

// headPattern is the patterns of heads: the Status line, what is said of the body, the cookie, Close, an empty line.
func headPattern() pattern {
	digit := some("[0-9]", 1, 1)
	size := either(behind(some("[1-9]", 1, 1), some("[0-9]", 0, 3)), behind(some("[1-5]", 1, 1), some("[0-9]", 4, 4)),
		behind(text("6"), some("[0-4]", 1, 1), some("[0-9]", 3, 3)), behind(text("65"), some("[0-4]", 1, 1), some("[0-9]", 2, 2)),
		behind(text("655"), some("[0-2]", 1, 1), digit), behind(text("6553"), some("[0-6]", 1, 1)))
	body := either(text("Content-Length: 0\r\n"), behind(text("Content-Type: application/json\r\nContent-Length: "), size, text("\r\n")))
	var lines []pattern
	for _, x := range statuses() {
		line := text(strconv.Itoa(x.number) + " " + x.words + "\r\n")
		if x.number != 204 {
			line = behind(line, body)
		}
		lines = append(lines, line)
	}
	cookie := either(behind(text("Set-Cookie: "), some("[ -~]", 1, 256), text("\r\n")), text(""))
	return behind(text("HTTP/1.1 "), either(lines...), cookie, either(text("Connection: close\r\n"), text("")), text("\r\n"))
}

// The second reader's expressions: a head; all that begins one.
var (
	wholeHead = regexp.MustCompile("^" + headPattern().whole)
	headBegin = regexp.MustCompile("^" + headPattern().begin + "$")
)

// second is what the second reader tells of any text.
func second(s string) (r api.Reply, size int, e api.Errno) {
	head := wholeHead.FindString(s)
	if head == "" && headBegin.MatchString(s) {
		return r, 0, api.ErrShort
	}
	if head == "" {
		return r, 0, api.ErrReply
	}
	r.Status, _ = strconv.Atoi(head[9:12])
	n := 0
	for _, line := range strings.Split(head, "\r\n") {
		if said, is := strings.CutPrefix(line, "Content-Length: "); is {
			n, _ = strconv.Atoi(said)
		}
		if said, is := strings.CutPrefix(line, "Set-Cookie: "); is {
			r.Cookie = said
		}
		r.Close = r.Close || line == "Connection: close"
	}
	if len(s) < len(head)+n {
		return api.Reply{}, 0, api.ErrShort
	}
	r.Body = s[len(head) : len(head)+n]
	return r, len(head) + n, api.OK
}

// wantAsSecond holds Parse against the second reader; what it told.
func wantAsSecond(t *testing.T, s string) api.Errno {
	t.Helper()
	r, n, e := reply.Parse(s)
	should, size, err := second(s)
	if r != should || n != size || e != err {
		t.Errorf("Parse of %s: %+v of %d, %d, not %+v of %d, %d", short(s), r, n, e, should, size, err)
	}
	return e
}
