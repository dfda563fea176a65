package cookie_test

import (
	"regexp"
	"slices"
	"strconv"
	"strings"
	"testing"

	"atrium/api"
	"atrium/cookie"
)

// want fails the test, if what was told is not what should be.
func want[T comparable](t *testing.T, what string, got, should T) {
	t.Helper()
	if got != should {
		t.Errorf("%s: %v, not %v", what, got, should)
	}
}

// short is bytes that may be shown.
func short(s string) string {
	if len(s) > 200 {
		return strconv.Quote(s[:200]) + " .. of " + strconv.Itoa(len(s))
	}
	return strconv.Quote(s)
}

// one is a text of one byte.
func one(b int) string {
	return string([]byte{byte(b)})
}

// The bytes of names and of values, written out.
const (
	tokens = "!#$%&'*+-.^_`|~0123456789abcdefghijklmnopqrstuvwxyzABCDEFGHIJKLMNOPQRSTUVWXYZ"
	bares  = "!#$%&'()*+-./0123456789:<=>?@ABCDEFGHIJKLMNOPQRSTUVWXYZ[]^_`abcdefghijklmnopqrstuvwxyz{|}~"
)

// pairsOf is pairs of names and values, told in turn.
func pairsOf(l ...string) []api.Pair {
	var pairs []api.Pair
	for i := 0; i < len(l); i += 2 {
		pairs = append(pairs, api.Pair{Key: l[i], Value: l[i+1]})
	}
	return pairs
}

// many is so many pairs, and their text.
func many(n int) ([]api.Pair, string) {
	var l []api.Pair
	var texts []string
	for i := range n {
		p := api.Pair{Key: "n" + strconv.Itoa(i), Value: strconv.Itoa(i)}
		l, texts = append(l, p), append(texts, p.Key+"="+p.Value)
	}
	return l, strings.Join(texts, "; ")
}

// wantPairs is that a text is the Cookie field's value of pairs, and they its.
func wantPairs(t *testing.T, s string, should []api.Pair) {
	t.Helper()
	l, e := cookie.Parse(s)
	if e != api.OK || !slices.Equal(l, should) {
		t.Errorf("Parse of %s: %v, %d, not %v", short(s), l, e, should)
	}
	again, e := cookie.Print(should)
	if e != api.OK || again != s {
		t.Errorf("Print of %v: %s, %d, not %s", should, short(again), e, short(s))
	}
}

// wantNone is that a text is no Cookie field's value.
func wantNone(t *testing.T, s string) {
	t.Helper()
	l, e := cookie.Parse(s)
	if e != api.ErrCookie || len(l) != 0 {
		t.Errorf("Parse of %s: %v, %d", short(s), l, e)
	}
}

// wantUnprinted is that pairs are those of no value.
func wantUnprinted(t *testing.T, l []api.Pair) {
	t.Helper()
	s, e := cookie.Print(l)
	if e != api.ErrCookie || s != "" {
		t.Errorf("Print of %v: %s, %d", l, short(s), e)
	}
}

// wantFound is what Find tells.
func wantFound(t *testing.T, values []string, name, should string, is bool) {
	t.Helper()
	v, ok := cookie.Find(values, name)
	if v != should || ok != is {
		t.Errorf("Find of %q in %q: %q, %v, not %q, %v", name, values, v, ok, should, is)
	}
}

// wantSet is that a text is what a cookie says, and the cookie it.
func wantSet(t *testing.T, c api.Cookie, should string) {
	t.Helper()
	s, e := cookie.Set(c)
	if e != api.OK || s != should {
		t.Errorf("Set of %+v: %s, %d, not %s", c, short(s), e, short(should))
	}
	again, e := cookie.ParseSet(should)
	if e != api.OK || again != c {
		t.Errorf("ParseSet of %s: %+v, %d, not %+v", short(should), again, e, c)
	}
}

// wantUnset is that a cookie may not be.
func wantUnset(t *testing.T, c api.Cookie) {
	t.Helper()
	s, e := cookie.Set(c)
	if e != api.ErrCookie || s != "" {
		t.Errorf("Set of %+v: %s, %d", c, short(s), e)
	}
}

// wantNoSet is that a text is Set of none.
func wantNoSet(t *testing.T, s string) {
	t.Helper()
	c, e := cookie.ParseSet(s)
	if e != api.ErrCookie || c != (api.Cookie{}) {
		t.Errorf("ParseSet of %s: %+v, %d", short(s), c, e)
	}
}

// The second reader: it asks the library's regular expressions.
const (
	nameClass  = "[-!#$%&'*+.^_`|~0-9A-Za-z]"
	valueClass = `[\x21\x23-\x2B\x2D-\x3A\x3C-\x5B\x5D-\x7E]`
	anyPair    = "(" + nameClass + "+)=(" + valueClass + `*|"` + valueClass + `*")`
)

var (
	wholeValue = regexp.MustCompile("^" + anyPair + "(?:; " + anyPair + "){0,15}$")
	pairAhead  = regexp.MustCompile("^(?:; )?" + anyPair + "(?:$|;)")
	wholeSet   = regexp.MustCompile("^(" + nameClass + "+)=(" + valueClass + `*)(?:; Path=(/[\x21-\x3A\x3C-\x7E]*))?(?:; Max-Age=(0|[1-9][0-9]*))?(; HttpOnly)?(; Secure)?(?:; SameSite=(Strict|Lax|None))?$`)
)

// second is what the second reader tells of a Cookie field's value.
func second(s string) ([]api.Pair, api.Errno) {
	if !wholeValue.MatchString(s) {
		return nil, api.ErrCookie
	}
	var l []api.Pair
	for s != "" {
		x := pairAhead.FindStringSubmatch(s)
		l = append(l, api.Pair{Key: x[1], Value: x[2]})
		s = strings.TrimPrefix(s, "; ")[len(x[1])+1+len(x[2]):]
	}
	return l, api.OK
}

// secondSet is what the second reader tells of a Set-Cookie field's value.
func secondSet(s string) (api.Cookie, api.Errno) {
	x := wholeSet.FindStringSubmatch(s)
	if x == nil {
		return api.Cookie{}, api.ErrCookie
	}
	c := api.Cookie{Name: x[1], Value: x[2], Path: x[3], HasAge: x[4] != "", HttpOnly: x[5] != "", Secure: x[6] != "", SameSite: x[7]}
	if c.HasAge {
		n, err := strconv.ParseInt(x[4], 10, 32)
		if err != nil {
			return api.Cookie{}, api.ErrCookie
		}
		c.MaxAge = int(n)
	}
	return c, api.OK
}

// textOf is what a cookie would say, as the chapter has it, may it be or not.
func textOf(c api.Cookie) string {
	s := c.Name + "=" + c.Value
	if c.Path != "" {
		s += "; Path=" + c.Path
	}
	if c.HasAge {
		s += "; Max-Age=" + strconv.Itoa(c.MaxAge)
	}
	if c.HttpOnly {
		s += "; HttpOnly"
	}
	if c.Secure {
		s += "; Secure"
	}
	if c.SameSite != "" {
		s += "; SameSite=" + c.SameSite
	}
	return s
}

// wantAsSecond holds Parse against the second reader, and Print against what was told; whether there were pairs.
func wantAsSecond(t *testing.T, s string) bool {
	t.Helper()
	should, e := second(s)
	if e == api.OK {
		wantPairs(t, s, should)
	} else {
		wantNone(t, s)
	}
	return e == api.OK
}

// wantSetAsSecond is the same of ParseSet and Set.
func wantSetAsSecond(t *testing.T, s string) bool {
	t.Helper()
	should, e := secondSet(s)
	if e == api.OK {
		wantSet(t, should, s)
	} else {
		wantNoSet(t, s)
	}
	return e == api.OK
}
