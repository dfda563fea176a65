package cookie_test

import (
	"math/rand"
	library "net/http"
	"slices"
	"strings"
	"testing"

	"atrium/api"
	"atrium/cookie"
)

// turns tells each text that comes of one by a byte that is turned, put in or left out, or by cutting off.
func turns(s string, tell func(string)) {
	for i := range len(s) {
		tell(s[:i])
		tell(s[:i] + s[i+1:])
		tell(s[i:])
		for b := range 256 {
			tell(s[:i] + one(b) + s[i+1:])
			tell(s[:i] + one(b) + s[i:])
		}
	}
}

func TestTurned(t *testing.T) { // P19.1, P19.4
	for _, s := range []string{"a=1", `a=1; b="2"`, `x="";y`, "a=; bc==; d=e", `n="; "`} {
		wantAsSecond(t, s)
		turns(s, func(s string) { wantAsSecond(t, s) })
	}
}

func TestTurnedSets(t *testing.T) { // P19.3, P19.4
	for _, s := range []string{"a=", "sid=x; Path=/; HttpOnly", "a=1; Path=/p; Max-Age=2147483647; HttpOnly; Secure; SameSite=Strict", "a=1; Max-Age=0; SameSite=None", `a="1"; Secure`} {
		wantSetAsSecond(t, s)
		turns(s, func(s string) { wantSetAsSecond(t, s) })
	}
}

// anyOf is some of some pieces, one behind the other.
func anyOf(r *rand.Rand, most int, pieces ...string) string {
	var b strings.Builder
	for range r.Intn(most + 1) {
		b.WriteString(pieces[r.Intn(len(pieces))])
	}
	return b.String()
}

func TestPlays(t *testing.T) { // P19.1, P19.4: pieces of values, and any bytes
	r := rand.New(rand.NewSource(19))
	is := 0
	for range 40000 {
		s := anyOf(r, 12, "a", "b", "=", "=1", "a=", "; ", "; b=", `"`, `=""`, ";", " ", "\x00", "é")
		if r.Intn(3) > 0 {
			s = "n=" + anyOf(r, 2, "v", `"v"`, "=") + anyOf(r, 17, "; n=v", "; m=", `; o="p"`)
		}
		if wantAsSecond(t, s) {
			is++
		}
		b := make([]byte, r.Intn(8))
		r.Read(b)
		wantAsSecond(t, string(b))
		wantAsSecond(t, "a=1; "+string(b))
	}
	if is < 5000 || is > 35000 {
		t.Errorf("%d are values", is)
	}
}

func TestPairsPlays(t *testing.T) { // P19.1, P19.4: pairs are those of a value just if the second reader finds them in what they would be
	r := rand.New(rand.NewSource(191))
	printed := 0
	for range 40000 {
		var l []api.Pair
		var texts []string
		for range r.Intn(18) {
			p := api.Pair{Key: "n", Value: "v"}
			if r.Intn(8) == 0 {
				p.Key = anyOf(r, 3, "a", "B", "=", " ", "-", "a; b")
			}
			if r.Intn(4) == 0 {
				p.Value = anyOf(r, 3, "a", `"`, "=", "1", `""`, "; ", `"x"`)
			}
			l, texts = append(l, p), append(texts, p.Key+"="+p.Value)
		}
		s := strings.Join(texts, "; ")
		found, e := second(s)
		if e == api.OK && slices.Equal(found, l) {
			wantPairs(t, s, l)
			printed++
		} else {
			wantUnprinted(t, l)
		}
	}
	if printed < 4000 || printed > 36000 {
		t.Errorf("%d are a value's", printed)
	}
}

// anyCookie is a cookie that may be, or that differs from one such in some places.
func anyCookie(r *rand.Rand) api.Cookie {
	l := allCookies()
	c := l[r.Intn(len(l))]
	for range r.Intn(3) {
		switch r.Intn(6) {
		case 0:
			c.Name = anyOf(r, 3, "a", "Z", "-", "=", " ", "; ")
		case 1:
			c.Value = anyOf(r, 3, "a", "1", "=", `"`, " ", "; Secure")
		case 2:
			c.Path = anyOf(r, 3, "/", "/a", "b", ";", " ", "\x7F", "; HttpOnly")
		case 3:
			c.MaxAge = []int{-1, 0, 1, 7, 1<<31 - 1, 1 << 31}[r.Intn(6)]
		case 4:
			c.HasAge = !c.HasAge
		case 5:
			c.SameSite = []string{"", "Lax", "Strict", "None", "lax", "x", "None; Secure"}[r.Intn(7)]
		}
	}
	return c
}

func TestSetPlays(t *testing.T) { // P19.3, P19.4: a cookie may be just if the second reader finds it in what it would say
	r := rand.New(rand.NewSource(193))
	may := 0
	for range 40000 {
		c := anyCookie(r)
		s := textOf(c)
		wantSetAsSecond(t, s)
		found, e := secondSet(s)
		if e == api.OK && found == c {
			wantSet(t, c, s)
			may++
		} else {
			wantUnset(t, c)
		}
		pieces := append(partTexts(), "a=1", "Max-Age=01", "Path=", "SameSite=x", "")
		s = "a=1"
		for range r.Intn(5) {
			s += "; " + pieces[r.Intn(len(pieces))]
		}
		wantSetAsSecond(t, s)
	}
	if may < 8000 || may > 36000 {
		t.Errorf("%d of them may be", may)
	}
}

func TestLibraryReads(t *testing.T) { // what is written is read by the library as what it was
	r := rand.New(rand.NewSource(194))
	for _, c := range allCookies() {
		c.Value = anyOf(r, 6, "a", "1", "=", "/", "?")
		if c.Path != "" { // of paths it takes only what may stand in values
			c.Path = "/" + anyOf(r, 6, "a", "/", "=", "%20", "?")
		}
		s, _ := cookie.Set(c)
		found, err := library.ParseSetCookie(s)
		if err != nil {
			t.Fatalf("the library does not read %q: %v", s, err)
		}
		age := c.MaxAge
		if c.HasAge && age == 0 { // it tells a nought so
			age = -1
		}
		site := map[string]library.SameSite{"Strict": library.SameSiteStrictMode, "Lax": library.SameSiteLaxMode, "None": library.SameSiteNoneMode}[c.SameSite]
		if found.Name != c.Name || found.Value != c.Value || found.Path != c.Path || found.MaxAge != age || found.HttpOnly != c.HttpOnly || found.Secure != c.Secure || found.SameSite != site {
			t.Errorf("the library reads %q otherwise: %+v", s, found)
		}
	}
	for n := 1; n <= 16; n++ {
		l, s := many(n)
		found, err := library.ParseCookie(s)
		if err != nil || len(found) != n {
			t.Fatalf("the library does not read %q: %v", s, err)
		}
		for i, p := range l {
			want(t, "its name", found[i].Name, p.Key)
			want(t, "its value", found[i].Value, p.Value)
		}
	}
}
