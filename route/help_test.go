package route_test

import (
	"net/url"
	"regexp"
	"slices"
	"strconv"
	"strings"
	"testing"

	"atrium/api"
	"atrium/route"
)

// want fails the test, if what was told is not what should be.
func want[T comparable](t *testing.T, what string, got, should T) {
	t.Helper()
	if got != should {
		t.Errorf("%s: %v, not %v", what, got, should)
	}
}

// wantList is want of lists, of which nil and the empty one are the same.
func wantList[T comparable](t *testing.T, what string, got, should []T) {
	t.Helper()
	if !slices.Equal(got, should) {
		t.Errorf("%s: %v, not %v", what, got, should)
	}
}

// short is bytes that may be shown.
func short(s string) string {
	if len(s) > 200 {
		return strconv.Quote(s[:200]) + " .. of " + strconv.Itoa(len(s))
	}
	return strconv.Quote(s)
}

// one is a text of one byte.
func one(b int) string {
	return string([]byte{byte(b)})
}

// methods are those of routes, and others.
func methods() []string {
	return []string{"DELETE", "GET", "POST", "PUT", "HEAD", "PATCH", "OPTIONS", "", "get", "Post", "GET ", " GET", "GETS", "GE", "DELETE\x00"}
}

// wantSplit is what Split tells of a target.
func wantSplit(t *testing.T, target, query string, has bool, pieces ...string) {
	t.Helper()
	l, q, is, e := route.Split(target)
	if !slices.Equal(l, pieces) || q != query || is != has || e != api.OK {
		t.Errorf("Split of %s: %q, %s, %v, %d, not %q, %s, %v", short(target), l, short(q), is, e, pieces, short(query), has)
	}
}

// wantUnsplit is that Split refuses a target, and with it Find and Methods.
func wantUnsplit(t *testing.T, target string, should api.Errno) {
	t.Helper()
	l, q, is, e := route.Split(target)
	if len(l) != 0 || q != "" || is || e != should {
		t.Errorf("Split of %s: %q, %s, %v, %d, not %d", short(target), l, short(q), is, e, should)
	}
	for _, method := range methods() {
		wantStatus(t, method, target, 400)
	}
	wantList(t, "Methods of "+short(target), route.Methods(target), nil)
}

// wantQuery is what Query tells of names and values, told in turn.
func wantQuery(t *testing.T, query string, l ...string) {
	t.Helper()
	var pairs []api.Pair
	for i := 0; i < len(l); i += 2 {
		pairs = append(pairs, api.Pair{Key: l[i], Value: l[i+1]})
	}
	told, e := route.Query(query)
	if !slices.Equal(told, pairs) || e != api.OK {
		t.Errorf("Query of %s: %q, %d, not %q", short(query), told, e, pairs)
	}
}

// wantNoQuery is that Query refuses a text.
func wantNoQuery(t *testing.T, query string) {
	t.Helper()
	l, e := route.Query(query)
	if len(l) != 0 || e != api.ErrText {
		t.Errorf("Query of %s: %q, %d", short(query), l, e)
	}
}

// wantFound is that a request asks for a route.
func wantFound(t *testing.T, method, target string, should api.Route) {
	t.Helper()
	x, status := route.Find(method, target)
	if x != should || status != 200 {
		t.Errorf("Find of %s %s: %+v, %d, not %+v", method, short(target), x, status, should)
	}
}

// wantStatus is that a request is none, and why.
func wantStatus(t *testing.T, method, target string, should int) {
	t.Helper()
	x, status := route.Find(method, target)
	if x != (api.Route{}) || status != should {
		t.Errorf("Find of %s %s: %+v, %d, not %d", method, short(target), x, status, should)
	}
}

// wantTarget is a route's method and target, and the way back.
func wantTarget(t *testing.T, x api.Route, method, target string) {
	t.Helper()
	m, s, ok := route.Target(x)
	if m != method || s != target || !ok {
		t.Errorf("Target of %+v: %s %s, %v, not %s %s", x, m, short(s), ok, method, short(target))
	}
	wantFound(t, method, target, x)
}

// wantNoTarget is that a route is none.
func wantNoTarget(t *testing.T, x api.Route) {
	t.Helper()
	m, s, ok := route.Target(x)
	if m != "" || s != "" || ok {
		t.Errorf("Target of %+v: %s %s, %v", x, m, short(s), ok)
	}
}

// The second telling: the chapter's table, its paths as expressions over bytes that are told as runes; the group is T or U.
type row struct {
	method string
	path   *regexp.Regexp
	x      api.Route
}

var table = []row{
	{"POST", regexp.MustCompile(`^/sessions$`), api.Route{Kind: 1}},
	{"GET", regexp.MustCompile(`^/sessions/([^/]+)$`), api.Route{Kind: 2}},
	{"POST", regexp.MustCompile(`^/sessions/([^/]+)/touch$`), api.Route{Kind: 3}},
	{"DELETE", regexp.MustCompile(`^/sessions/([^/]+)$`), api.Route{Kind: 4}},
	{"DELETE", regexp.MustCompile(`^/users/([^/]+)/sessions$`), api.Route{Kind: 5}},
	{"DELETE", regexp.MustCompile(`^/sessions$`), api.Route{Kind: 6}},
	{"GET", regexp.MustCompile(`^/users/([^/]+)/sessions$`), api.Route{Kind: 7}},
	{"GET", regexp.MustCompile(`^/audit$`), api.Route{Kind: 8}},
	{"GET", regexp.MustCompile(`^/me$`), api.Route{Kind: 2, Me: true}},
	{"GET", regexp.MustCompile(`^/stats$`), api.Route{Kind: 9}},
}

// wholeNumber is what text.Digits takes of up to nine digits.
var wholeNumber = regexp.MustCompile(`^(?:0|[1-9][0-9]{0,8})$`)

// latin is bytes as runes, narrow is the way back.
func latin(s string) string {
	var l []rune
	for i := range len(s) {
		l = append(l, rune(s[i]))
	}
	return string(l)
}

func narrow(s string) string {
	var l []byte
	for _, r := range s {
		l = append(l, byte(r))
	}
	return string(l)
}

// secondSplit is what the second telling says of a target.
func secondSplit(target string) (pieces []string, query string, has bool, e api.Errno) {
	if len(target) > 1024 {
		return nil, "", false, api.ErrLong
	}
	path := target
	for i := range len(target) {
		if target[i] == '?' {
			path, query, has = target[:i], target[i+1:], true
			break
		}
	}
	if path == "" || path[0] != '/' {
		return nil, "", false, api.ErrText
	}
	for _, piece := range strings.Split(path[1:], "/") {
		s, err := url.PathUnescape(piece)
		if err != nil {
			return nil, "", false, api.ErrText
		}
		pieces = append(pieces, s)
	}
	return pieces, query, has, api.OK
}

// secondQuery is what it says of a query.
func secondQuery(query string) ([]api.Pair, api.Errno) {
	var l []api.Pair
	for rest, more := query, query != ""; more; {
		var pair string
		pair, rest, more = strings.Cut(rest, "&")
		at := strings.IndexByte(pair, '=')
		if at < 0 {
			return nil, api.ErrText
		}
		name, e1 := url.PathUnescape(pair[:at])
		value, e2 := url.PathUnescape(pair[at+1:])
		if e1 != nil || e2 != nil {
			return nil, api.ErrText
		}
		l = append(l, api.Pair{Key: name, Value: value})
	}
	return l, api.OK
}

// secondFind is what it says of a request: the rows of the path, those of the method among them, the query.
func secondFind(method, target string) (api.Route, int, []string) {
	_, query, has, e := secondSplit(target)
	if e != api.OK {
		return api.Route{}, 400, nil
	}
	path := target[:len(target)-len(query)]
	if has {
		path = path[:len(path)-1]
	}
	var having []string
	var asked []api.Route
	for _, r := range table {
		x := r.path.FindStringSubmatch(latin(path))
		if x == nil {
			continue
		}
		having = append(having, r.method)
		if r.method != method {
			continue
		}
		found := r.x
		if len(x) == 2 {
			s, _ := url.PathUnescape(narrow(x[1]))
			if found.Kind == 5 || found.Kind == 7 {
				found.User = s
			} else {
				found.Token = s
			}
		}
		asked = append(asked, found)
	}
	slices.Sort(having)
	switch {
	case len(having) == 0:
		return api.Route{}, 404, nil
	case len(asked) == 0:
		return api.Route{}, 405, having
	case len(asked) > 1:
		panic("two routes")
	}
	x, is := secondFrom(asked[0], query, has)
	if !is {
		return api.Route{}, 400, having
	}
	return x, 200, having
}

// secondFrom is what it says of a route's query.
func secondFrom(x api.Route, query string, has bool) (api.Route, bool) {
	if x.Kind != 8 || !has {
		if x.Kind == 8 {
			x.From = 1
		}
		return x, !has
	}
	l, e := secondQuery(query)
	if e != api.OK || len(l) != 1 || l[0].Key != "from" || !wholeNumber.MatchString(l[0].Value) {
		return x, false
	}
	x.From, _ = strconv.Atoi(l[0].Value)
	return x, true
}

// wantAsSecond holds Split, Query, Find of each method and Methods of a target against the second telling, and what was found against Target; how often each status was told.
func wantAsSecond(t *testing.T, target string, told map[int]int) {
	t.Helper()
	pieces, query, has, e := secondSplit(target)
	if e != api.OK {
		wantUnsplit(t, target, e)
		told[400]++
		return
	}
	wantSplit(t, target, query, has, pieces...)
	pairs, wrong := secondQuery(query)
	l, e := route.Query(query)
	if !slices.Equal(l, pairs) || e != wrong {
		t.Errorf("Query of %s: %q, %d, not %q, %d", short(query), l, e, pairs, wrong)
	}
	for _, method := range []string{"DELETE", "GET", "POST", "PUT"} {
		x, status, having := secondFind(method, target)
		wantList(t, "Methods of "+short(target), route.Methods(target), having)
		told[status]++
		if status != 200 {
			wantStatus(t, method, target, status)
			continue
		}
		wantFound(t, method, target, x)
		if m, s, ok := route.Target(x); ok {
			want(t, "its method", m, method)
			wantFound(t, m, s, x)
		} else if len(target) <= 1024/3 {
			t.Errorf("%+v has no target", x)
		}
	}
}
