package cookie_test

import (
	"math"
	"strconv"
	"strings"
	"testing"

	"atrium/api"
)

func TestSet(t *testing.T) { // P19.3, P19.4
	for _, x := range []struct {
		c api.Cookie
		s string
	}{
		{api.Cookie{Name: "a"}, "a="},
		{api.Cookie{Name: "a", Value: "1"}, "a=1"},
		{api.Cookie{Name: "a", Value: "b=c="}, "a=b=c="},
		{api.Cookie{Name: "sid", Value: "x", Path: "/", HttpOnly: true}, "sid=x; Path=/; HttpOnly"},
		{api.Cookie{Name: "a", Path: "/b/c"}, "a=; Path=/b/c"},
		{api.Cookie{Name: "a", HasAge: true}, "a=; Max-Age=0"},
		{api.Cookie{Name: "a", HasAge: true, MaxAge: 10}, "a=; Max-Age=10"},
		{api.Cookie{Name: "a", HttpOnly: true}, "a=; HttpOnly"},
		{api.Cookie{Name: "a", Secure: true}, "a=; Secure"},
		{api.Cookie{Name: "a", SameSite: "Strict"}, "a=; SameSite=Strict"},
		{api.Cookie{Name: "a", SameSite: "Lax"}, "a=; SameSite=Lax"},
		{api.Cookie{Name: "a", SameSite: "None"}, "a=; SameSite=None"},
		{api.Cookie{Name: "sid", Value: "x", Path: "/p", MaxAge: 9, HasAge: true, HttpOnly: true, Secure: true, SameSite: "Lax"}, "sid=x; Path=/p; Max-Age=9; HttpOnly; Secure; SameSite=Lax"},
		{api.Cookie{Name: "Path", Value: "Path=/"}, "Path=Path=/"}, // a pair, whatever its name
		{api.Cookie{Name: "Secure", Value: "HttpOnly", Secure: true}, "Secure=HttpOnly; Secure"},
		{api.Cookie{Name: "Max-Age", Value: "9"}, "Max-Age=9"},
	} {
		wantSet(t, x.c, x.s)
		want(t, "as the test itself has it", textOf(x.c), x.s)
	}
}

// allCookies is a cookie with each part there and not there.
func allCookies() []api.Cookie {
	var l []api.Cookie
	for n := range 3 * 3 * 2 * 2 * 4 {
		c := api.Cookie{Name: "sid", Value: "v", Path: []string{"", "/", "/a=b,\"\\?"}[n%3]}
		n /= 3
		c.HasAge = n%3 > 0
		c.MaxAge = []int{0, 0, 3600}[n%3]
		n /= 3
		c.HttpOnly, c.Secure, c.SameSite = n%2 == 1, n/2%2 == 1, []string{"", "Strict", "Lax", "None"}[n/4]
		l = append(l, c)
	}
	return l
}

func TestAllParts(t *testing.T) { // P19.3, P19.4
	seen := map[string]int{}
	for _, c := range allCookies() {
		wantSet(t, c, textOf(c))
		seen[textOf(c)]++
	}
	want(t, "how many", len(seen), 3*3*2*2*4)
}

// The texts behind a pair, in their order.
func partTexts() []string {
	return []string{"Path=/", "Max-Age=9", "HttpOnly", "Secure", "SameSite=Lax"}
}

func TestOrderOfParts(t *testing.T) { // P19.3: all rows of up to three, and all orders of all five
	l := partTexts()
	var tell func(ahead string, last, left int, rises bool)
	tell = func(ahead string, last, left int, rises bool) {
		if rises {
			wantSetAsSecond(t, ahead)
		} else {
			wantNoSet(t, ahead)
		}
		if left == 0 {
			return
		}
		for i, s := range l {
			tell(ahead+"; "+s, i, left-1, rises && i > last)
		}
	}
	tell("a=1", -1, 5, true)
}

func TestLettersOfParts(t *testing.T) { // P19.3: each word as it is
	for _, s := range []string{
		"path=/", "PATH=/", "Path=", "Path", "Path /", "Path =/", "Path= /", "Path:/", "Pathx=/", "Path=/;", "Path=\"/\"", "Path=/; ",
		"max-age=1", "Max-age=1", "MaxAge=1", "Max-Age", "Max-Age=", "Max-Age= 1", "Max-Age =1", "Max-Age:1",
		"httponly", "Httponly", "HTTPOnly", "HttpOnl", "HttpOnly ", "HttpOnly=", "HttpOnly=true", "HttpOnlyx",
		"secure", "SECURE", "Secur", "Secure ", "Secure=", "Secure=1", "Securex", "HttpOnlySecure",
		"samesite=Lax", "Samesite=Lax", "SameSite", "SameSite=", "SameSite=lax", "SameSite=LAX", "SameSite=Laxx", "SameSite=La", "SameSite= Lax", "SameSite=Lax ", "SameSite=Strict,Lax", "SameSite=strict", "SameSite=none", "SameSite=Default", "SameSite=\"Lax\"",
		"Domain=x", "Expires=0", "Partitioned", "Version=1", "x", "x=y", "", " ", ";", "=",
	} {
		wantNoSet(t, "a=1; "+s)
		wantNoSet(t, "a=1; Path=/p; "+s)
		wantNoSet(t, "a=1; "+s+"; SameSite=None")
	}
	for _, s := range []string{"", "a", "=", "=1", ";", "; ", "; Path=/", "Path=/; a=1; ", "a=1;", "a=1; ", " a=1", "a=1 ", "a=1;Path=/", "a=1;  Path=/", "a=1 ; Path=/", "a=1; Path=/;HttpOnly", "a=1; HttpOnly;Secure", "a=1, HttpOnly", "a=1; b=2", "HttpOnly", "a; HttpOnly", "HttpOnly; a=1", "a b=1"} {
		wantNoSet(t, s)
	}
	wantSet(t, api.Cookie{Name: "Path", Value: "/", Path: "/"}, "Path=/; Path=/")
}

func TestSetNames(t *testing.T) { // P19.3: each byte
	for b := range 256 {
		c := one(b)
		for _, name := range []string{c, c + "a", "a" + c, "a" + c + "b"} {
			x := api.Cookie{Name: name, Value: "1", Path: "/"}
			if strings.Contains(tokens, c) {
				wantSet(t, x, name+"=1; Path=/")
				continue
			}
			wantUnset(t, x)
			if c != "=" || strings.HasPrefix(name, c) {
				wantNoSet(t, name+"=1; Path=/")
			}
		}
	}
	wantUnset(t, api.Cookie{})
	wantUnset(t, api.Cookie{Value: "1"})
	wantUnset(t, api.Cookie{Name: "a=b"})
	wantUnset(t, api.Cookie{Name: "é"})
}

func TestSetValues(t *testing.T) { // P19.3: each byte; no quotation marks
	for b := range 256 {
		c := one(b)
		for _, value := range []string{c, c + "a", "a" + c, "a" + c + "b"} {
			x := api.Cookie{Name: "n", Value: value, Secure: true}
			if strings.Contains(bares, c) {
				wantSet(t, x, "n="+value+"; Secure")
				continue
			}
			wantUnset(t, x)
			wantNoSet(t, "n="+value+"; Secure")
		}
	}
	for _, value := range []string{`""`, `"a"`, `"`, `a"`, `"a`, "1; Secure", "1; Path=/", "a b", "é"} {
		wantUnset(t, api.Cookie{Name: "n", Value: value})
	}
	for _, value := range []string{`""`, `"a"`, `"`, `a"`, `"a`} {
		wantNoSet(t, "n="+value)
		wantNoSet(t, "n="+value+"; HttpOnly")
	}
	long := strings.Repeat("v", 100000)
	wantSet(t, api.Cookie{Name: long, Value: long, Path: "/" + long}, long+"="+long+"; Path=/"+long)
}

func TestPaths(t *testing.T) { // P19.3: each byte behind a slash; what does not begin with one
	for b := range 256 {
		c := one(b)
		for _, path := range []string{"/" + c, "/" + c + "a", "/a" + c, "/a" + c + "b"} {
			x := api.Cookie{Name: "n", Path: path, SameSite: "Lax"}
			if b >= 0x21 && b <= 0x7E && b != 0x3B {
				wantSet(t, x, "n=; Path="+path+"; SameSite=Lax")
				continue
			}
			wantUnset(t, x)
			wantNoSet(t, "n=; Path="+path+"; SameSite=Lax")
		}
		for _, path := range []string{c, c + "/", c + "a"} {
			if c == "/" {
				continue
			}
			wantUnset(t, api.Cookie{Name: "n", Path: path})
			wantNoSet(t, "n=; Path="+path)
		}
	}
	for _, path := range []string{"/", "//", "/a/", "/\x21", "/\x7E", "/=", "/\"\"", "/,", "/\\", "/%20"} {
		wantSet(t, api.Cookie{Name: "n", Path: path}, "n=; Path="+path)
	}
	for _, path := range []string{"a", "a/", " /", "/ ", "/\x20", "/\x7F", "/;", "/; Secure", "/; HttpOnly", "/é", "\"/\"", "?", "\\"} {
		wantUnset(t, api.Cookie{Name: "n", Path: path})
	}
}

func TestAges(t *testing.T) { // P19.3
	for _, n := range []int{0, 1, 2, 9, 10, 99, 100, 3600, 1<<31 - 2, 1<<31 - 1} {
		wantSet(t, api.Cookie{Name: "a", MaxAge: n, HasAge: true, Secure: true}, "a=; Max-Age="+strconv.Itoa(n)+"; Secure")
	}
	for _, n := range []int{-1, -2, math.MinInt, 1 << 31, 1<<31 + 1, 1 << 32, 1<<32 + 1, math.MaxInt} {
		wantUnset(t, api.Cookie{Name: "a", MaxAge: n, HasAge: true})
		wantUnset(t, api.Cookie{Name: "a", MaxAge: n})
		wantNoSet(t, "a=; Max-Age="+strconv.Itoa(n))
	}
	for _, n := range []int{1, 2, 3600, 1<<31 - 1} { // without HasAge
		wantUnset(t, api.Cookie{Name: "a", MaxAge: n})
	}
	wantSet(t, api.Cookie{Name: "a", MaxAge: 0}, "a=")
	for _, said := range []string{
		"", "00", "01", "007", "0000000000", "+1", "-1", "-0", "+0", " 1", "1 ", "1.0", "1e3", "0x1", "1_0", "x", "1x", "x1", "１", `"1"`, "1,2", "1=2",
		"2147483648", "2147483650", "4294967297", "9999999999", "999999999999999999", "1000000000000000000", "9223372036854775808", "18446744073709551617", strings.Repeat("9", 100), strings.Repeat("0", 100), "1" + strings.Repeat("0", 1000),
	} {
		wantNoSet(t, "a=; Max-Age="+said)
		wantNoSet(t, "a=; Max-Age="+said+"; Secure")
	}
}

func TestSameSites(t *testing.T) { // P19.3
	for _, s := range []string{"Strict", "Lax", "None"} {
		wantSet(t, api.Cookie{Name: "a", SameSite: s}, "a=; SameSite="+s)
	}
	for _, s := range []string{" ", "strict", "STRICT", "lax", "LAX", "none", "NONE", "Strict ", " Lax", "Laxx", "La", "Default", "Strict; Secure", "Lax,None", "x", "\x00", "é"} {
		wantUnset(t, api.Cookie{Name: "a", SameSite: s})
		wantNoSet(t, "a=; SameSite="+s)
	}
}
