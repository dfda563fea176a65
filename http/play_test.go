package http_test

import (
	"bufio"
	"io"
	"math/rand"
	library "net/http"
	"slices"
	"strconv"
	"strings"
	"testing"

	"atrium/api"
	"atrium/http"
)

// samples are bytes around right requests.
func samples() []string {
	return []string{
		with(), with("A: b", "Content-Length: 3") + "abc", with("Connection: close"), with("connection:\tClose\t", "A:", "a: \t", "B: c d") + "GET",
		head("POST /sessions?a=b HTTP/1.1", "Content-Length: 12", "Host:  h  ", "Cookie: a=1; b=\"2\"") + "{\"user\": 1}\n" + with(),
		with("Content-Length: 0") + "\r\n\r\n", with("Content-Length: 8192") + strings.Repeat("z", 8192), with("Content-Length: 8193"), with("Content-Length: 01"), with("Transfer-Encoding: x"),
		head("GET / HTTP/1.1"), head("GET / HTTP/1.1", "Host: x", "hosT: y"), head(strings.Repeat("M", 16)+" /"+strings.Repeat("t", 1023)+" HTTP/1.1", "Host:"), with(slices.Repeat([]string{"a:b"}, 31)...),
		"", "\r\n\r\n", "\r\n", "x", with("A: \xE9\xFF\x80"), with("Content-Length: " + strings.Repeat("9", 19)),
	}
}

// wantAsBytesCome is what P17.5 and P17.6 say of bytes, cut off at some places and with more behind.
func wantAsBytesCome(t *testing.T, s string, cuts []int) {
	t.Helper()
	r, n, e := wantAsSecond(t, s)
	if n > 4096+8192 || n > len(s) {
		t.Errorf("Parse of %s: a size of %d", short(s), n)
	}
	if e != api.ErrNone {
		for _, behind := range []string{"x", "\r\n\r\n", "\r\n", s, strings.Repeat("y", 9000)} {
			again, size, err := http.Parse(s + behind)
			if err != e || size != n || !same(r, again) {
				t.Errorf("Parse of %s with more behind: %d of %d, not %d of %d", short(s), err, size, e, n)
			}
		}
	}
	if e == api.OK {
		for _, i := range cuts {
			if i < n {
				wantNone(t, s[:i], api.ErrNone)
			}
		}
		wantBack(t, r)
	}
}

// wantBack is what P17.4 says of a request that was parsed: it may be, but if its head is too wide with a blank ahead of each value.
func wantBack(t *testing.T, r api.Request) {
	t.Helper()
	should := api.OK
	if len(bytesOf(r))-len(r.Body) > 4096 {
		should = api.ErrWide
	}
	wantCheck(t, "what was parsed", r, should)
}

func TestSamples(t *testing.T) { // P17.1, P17.4, P17.5, P17.6: whole, cut off at each place, and with a byte left out
	for _, s := range samples() {
		var all []int
		for i := range min(len(s), 1500) {
			all = append(all, i)
		}
		wantAsBytesCome(t, s, all)
		for _, i := range all {
			wantAsSecond(t, s[:i])
			wantAsBytesCome(t, s[:i]+s[i+1:], nil)
		}
	}
}

func TestTurnedBytes(t *testing.T) { // P17.1, P17.5: each byte in each place
	for _, s := range samples() {
		if len(s) > 120 {
			continue
		}
		for i := range len(s) {
			for b := range 256 {
				turned := s[:i] + string([]byte{byte(b)}) + s[i+1:]
				wantAsSecond(t, turned)
				wantAsSecond(t, s[:i]+string([]byte{byte(b)})+s[i:])
			}
		}
	}
}

// anyLine is a line that may be a head's, or nearly.
func anyLine(r *rand.Rand) string {
	names := []string{"Host", "host", "A", "content-length", "Content-Length", "connection", "Connection", "Transfer-Encoding", "a b", "", "x-1", "\x00"}
	values := []string{"", "x", "0", "3", "12", "8192", "8193", "close", "Close", "a\tb", " y ", "9999999999999999999", "01", "\r", "\n", "\xFF"}
	colons := []string{":", ": ", ":\t ", ":  ", ": ", " :", ""}
	return names[r.Intn(len(names))] + colons[r.Intn(len(colons))] + values[r.Intn(len(values))]
}

// anyRequest is bytes that are a request, or nearly.
func anyRequest(r *rand.Rand) string {
	methods := []string{"GET", "POST", "DELETE", "X", "get", "", strings.Repeat("Q", 16), strings.Repeat("Q", 17)}
	targets := []string{"/", "/a", "/a?b=c", "a", "", "/ ", "/" + strings.Repeat("t", 1023), "/" + strings.Repeat("t", 1024)}
	line := "GET /a HTTP/1.1"
	if r.Intn(3) == 0 {
		line = methods[r.Intn(len(methods))] + " " + targets[r.Intn(len(targets))] + " HTTP/1.1"
	}
	lines := []string{line}
	if r.Intn(4) > 0 {
		lines = append(lines, "Host: x")
	}
	for range r.Intn(4) {
		lines = append(lines, anyLine(r))
	}
	if r.Intn(20) == 0 {
		lines = append(lines, slices.Repeat([]string{"f: g"}, 28+r.Intn(4))...)
	}
	if r.Intn(20) == 0 {
		lines = append(lines, "W: "+strings.Repeat("w", 3900+r.Intn(250)))
	}
	return head(lines...) + strings.Repeat("b", r.Intn(16))
}

func TestPlays(t *testing.T) { // P17.1, P17.4, P17.5, P17.6
	r := rand.New(rand.NewSource(17))
	told := map[api.Errno]int{}
	for range 20000 {
		s := anyRequest(r)
		if r.Intn(4) == 0 && len(s) > 0 {
			i := r.Intn(len(s))
			s = s[:i] + []string{"", "\r\n", "\r", "\n", " ", ":", "\x00", "\r\n\r\n"}[r.Intn(8)] + s[i+r.Intn(2):]
		}
		if r.Intn(6) == 0 {
			s = s[:r.Intn(len(s)+1)]
		}
		wantAsBytesCome(t, s, []int{0, r.Intn(len(s) + 1), len(s) - 1})
		_, _, e := http.Parse(s)
		told[e]++
	}
	for _, e := range []api.Errno{api.OK, api.ErrNone, api.ErrHead, api.ErrBig, api.ErrWide} {
		if told[e] < 50 {
			t.Errorf("%d was told %d times", e, told[e])
		}
	}
}

func TestAnyBytes(t *testing.T) { // P17.6
	r := rand.New(rand.NewSource(176))
	pieces := []string{"\r\n", "\r", "\n", ":", " ", "\t", "GET", "/", "HTTP/1.1", "Host", "\x00", "\xFF", "Content-Length", "1"}
	for range 20000 {
		var b strings.Builder
		for range r.Intn(40) {
			b.WriteString(pieces[r.Intn(len(pieces))])
		}
		wantAsBytesCome(t, b.String(), []int{0})
	}
	for range 200 {
		b := make([]byte, r.Intn(20000))
		for i := range b {
			b[i] = byte(r.Intn(256))
		}
		wantAsBytesCome(t, string(b), nil)
	}
}

// anyPart is a request that may be, or that differs from one such in some places.
func anyPart(r *rand.Rand) api.Request {
	body := strings.Repeat("b", r.Intn(12))
	q := plain()
	if body != "" || r.Intn(2) == 0 {
		q = sized(body, strconv.Itoa(len(body)))
	}
	for range r.Intn(3) {
		q.Fields = append(q.Fields, api.Field{Name: []string{"a", "B", "x-Y"}[r.Intn(3)], Value: []string{"", "v", "a \t b", "\xE9"}[r.Intn(4)]})
	}
	if r.Intn(3) == 0 {
		q.Fields, q.Close = append(q.Fields, api.Field{Name: "connection", Value: "cLose"}), true
	}
	r.Shuffle(len(q.Fields), func(i, j int) { q.Fields[i], q.Fields[j] = q.Fields[j], q.Fields[i] })
	for range r.Intn(3) {
		turn(r, &q)
	}
	return q
}

// turn changes one place of a request, mostly so that it may not be any more.
func turn(r *rand.Rand, q *api.Request) {
	f := &q.Fields[r.Intn(len(q.Fields))]
	switch r.Intn(8) {
	case 0:
		q.Close = !q.Close
	case 1:
		q.Body += "x"
	case 2:
		q.Method = []string{"", "get", "PUT", "A B"}[r.Intn(4)]
	case 3:
		q.Target = []string{"", "/", "a", "/ ", "/b"}[r.Intn(5)]
	case 4:
		f.Name = []string{"", "host", "content-length", "a:", "connection", "q"}[r.Intn(6)]
	case 5:
		f.Value = []string{"", " ", "close", "v ", "0", "1", "a\r\nb: c", "a\nb"}[r.Intn(8)]
	case 6:
		q.Fields = append(q.Fields, *f)
	case 7:
		q.Fields = q.Fields[:len(q.Fields)-1]
		if len(q.Fields) == 0 {
			q.Fields = []api.Field{{Name: "host"}}
		}
	}
}

func TestCheckPlays(t *testing.T) { // P17.2, P17.4: a request may be just if the second reader finds it in the bytes that it would have
	r := rand.New(rand.NewSource(172))
	may := 0
	for range 20000 {
		q := anyPart(r)
		found, n, e := second(bytesOf(q))
		should := api.ErrHead
		if e == api.OK && n == len(bytesOf(q)) && same(q, found) {
			should = api.OK
			may++
		}
		wantCheck(t, short(bytesOf(q)), q, should)
	}
	if may < 2000 || may > 18000 {
		t.Errorf("%d of them may be", may)
	}
}

func TestLibraryReads(t *testing.T) { // what Print tells is a request of HTTP/1.1, as the library reads it
	r := rand.New(rand.NewSource(9))
	read := 0
	for range 2000 {
		q := anyPart(r)
		s, e := http.Print(q)
		if e != api.OK {
			continue
		}
		read++
		found, err := library.ReadRequest(bufio.NewReader(strings.NewReader(s)))
		if err != nil {
			t.Fatalf("the library does not read %q: %v", s, err)
		}
		body, err := io.ReadAll(found.Body)
		if err != nil || string(body) != q.Body || found.Method != q.Method || found.RequestURI != q.Target || found.Close != q.Close {
			t.Errorf("the library reads %q otherwise: %v", s, err)
		}
		for _, f := range q.Fields {
			if !strings.EqualFold(f.Name, "host") && !strings.EqualFold(f.Name, "connection") {
				wantList(t, f.Name, http.All(q, f.Name), found.Header.Values(f.Name))
			}
		}
	}
	if read < 200 {
		t.Errorf("only %d", read)
	}
}
