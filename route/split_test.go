package route_test

import (
	"slices"
	"strings"
	"testing"

	"atrium/api"
	"atrium/route"
)

func TestSplit(t *testing.T) { // P20.1
	wantSplit(t, "/", "", false, "")
	wantSplit(t, "/a", "", false, "a")
	wantSplit(t, "/a/b/c", "", false, "a", "b", "c")
	wantSplit(t, "/sessions/a%2Fb", "", false, "sessions", "a/b")
	wantSplit(t, "/a%41/?x", "x", true, "aA", "")
	wantSplit(t, "/%61%62c/d%20e", "", false, "abc", "d e")
	wantSplit(t, "/a+b/c d", "", false, "a+b", "c d") // these stand as they are
	wantSplit(t, "/%00/%FF%ff/\x00\xFF", "", false, "\x00", "\xFF\xFF", "\x00\xFF")
	wantSplit(t, "/%2525", "", false, "%25") // once
	wantSplit(t, "/a#b;c=d&e", "", false, "a#b;c=d&e")
	wantSplit(t, "/./../é", "", false, ".", "..", "é")
}

func TestSplitEmptyPieces(t *testing.T) { // P20.1
	for _, x := range []struct {
		target string
		pieces []string
	}{
		{"/", []string{""}}, {"//", []string{"", ""}}, {"///", []string{"", "", ""}},
		{"//a", []string{"", "a"}}, {"/a/", []string{"a", ""}}, {"/a//b", []string{"a", "", "b"}}, {"//a//b//", []string{"", "a", "", "b", "", ""}},
	} {
		wantSplit(t, x.target, "", false, x.pieces...)
		wantSplit(t, x.target+"?", "", true, x.pieces...)
		wantSplit(t, x.target+"?/q//", "/q//", true, x.pieces...)
	}
	wantSplit(t, strings.Repeat("/", 1024), "", false, slices.Repeat([]string{""}, 1024)...)
}

func TestSplitQueries(t *testing.T) { // P20.1: all behind the first question mark, as it stands
	for _, query := range []string{"", "x", "a=b", "a=b&c=d", "?", "??", "a?b", "=", "&", "%", "%zz", "%4", "%41", "/", "/a/b", "a b", "\x00\xFF", "é", "#"} {
		wantSplit(t, "/?"+query, query, true, "")
		wantSplit(t, "/a/b%2f?"+query, query, true, "a", "b/")
	}
	wantSplit(t, "/a%3Fb%3f", "", false, "a?b?") // an escaped one is none
	wantSplit(t, "/a%3Fb?c%3Fd?e", "c%3Fd?e", true, "a?b")
	wantSplit(t, "/a%2F%2fb/c%2F", "", false, "a//b", "c/") // nor an escaped slash
	wantSplit(t, "/%2F", "", false, "/")
	wantSplit(t, "/%26%3D?%26%3D", "%26%3D", true, "&=")
}

func TestSplitRefuses(t *testing.T) { // P20.1
	for _, target := range []string{"", "a", "a/b", "?", "?/", "?a=b", " ", " /", "%2F", "%2Fa", "\\", "*", "http://x/a", "\x00/", "#/", "é", "sessions", "audit?from=1"} {
		wantUnsplit(t, target, api.ErrText)
	}
	for _, wrong := range []string{"%", "%4", "%zz", "%g0", "%0g", "%%", "%%41", "% 1", "%1 ", "%-1", "a%", "a%4", "%41%", "%u0041", "%\x00\x00", "%é"} {
		for _, target := range []string{"/" + wrong, "/a/" + wrong, "/" + wrong + "/a", "/a/" + wrong + "/b", "//" + wrong, "/sessions/" + wrong, "/audit/" + wrong} {
			wantUnsplit(t, target, api.ErrText)
			wantUnsplit(t, target+"?", api.ErrText)
			wantUnsplit(t, target+"?41", api.ErrText)
			wantUnsplit(t, target+"?a=b", api.ErrText)
		}
	}
	wantUnsplit(t, "/%4/1", api.ErrText) // no slash, no question mark is a digit
	wantUnsplit(t, "/%/41", api.ErrText)
	wantUnsplit(t, "/%4?1", api.ErrText)
}

func TestSplitLengths(t *testing.T) { // P20.1
	for _, n := range []int{1, 2, 1000, 1023, 1024} {
		wantSplit(t, "/"+strings.Repeat("a", n-1), "", false, strings.Repeat("a", n-1))
		wantSplit(t, ("/?" + strings.Repeat("q", 1024))[:n], strings.Repeat("q", max(n-2, 0)), n > 1, "")
	}
	wantSplit(t, "/"+strings.Repeat("%41", 341), "", false, strings.Repeat("A", 341)) // 1024 as they stand
	for _, n := range []int{1025, 1026, 2048, 100000} {
		wantUnsplit(t, "/"+strings.Repeat("a", n-1), api.ErrLong)
		wantUnsplit(t, "/?"+strings.Repeat("q", n-2), api.ErrLong)
		wantUnsplit(t, "/sessions?"+strings.Repeat("q", n-10), api.ErrLong)
		wantUnsplit(t, strings.Repeat("a", n), api.ErrLong) // what is named first
		wantUnsplit(t, "/"+strings.Repeat("%", n-1), api.ErrLong)
		wantUnsplit(t, strings.Repeat("/", n), api.ErrLong)
	}
	wantUnsplit(t, "/"+strings.Repeat("%41", 342), api.ErrLong)
	wantUnsplit(t, strings.Repeat("a", 1024), api.ErrText)
	wantUnsplit(t, "/"+strings.Repeat("a", 1022)+"%", api.ErrText)
}

func TestSplitBytes(t *testing.T) { // P20.1: each byte, and each behind a percent
	for b := range 256 {
		c := one(b)
		for _, target := range []string{c, "/" + c, "/a" + c + "b", "/%" + c + "1", "/%4" + c, "/a?" + c, "/a" + c + "?", c + "/a"} {
			wantAsSecond(t, target, map[int]int{})
		}
		wantSplit(t, "/x%"+strings.ToUpper(hex(b))+"/y%"+hex(b), "", false, "x"+c, "y"+c)
	}
}

// hex is a byte's two digits.
func hex(b int) string {
	const digits = "0123456789abcdef"
	return digits[b/16:b/16+1] + digits[b%16:b%16+1]
}

func TestQuery(t *testing.T) { // P20.1
	wantQuery(t, "")
	wantQuery(t, "a=b", "a", "b")
	wantQuery(t, "a=1&b=2&a=3", "a", "1", "b", "2", "a", "3") // in order, and twice
	wantQuery(t, "=", "", "")
	wantQuery(t, "a=", "a", "")
	wantQuery(t, "=b", "", "b")
	wantQuery(t, "=&=&=", "", "", "", "", "", "")
	wantQuery(t, "a==", "a", "=") // the first equals sign
	wantQuery(t, "a=b=c", "a", "b=c")
	wantQuery(t, "===", "", "==")
	wantQuery(t, "a=b&c==d&=", "a", "b", "c", "=d", "", "")
	wantQuery(t, "%61=%62", "a", "b")
	wantQuery(t, "a%3D=b%3d", "a=", "b=") // escaped ones part nothing
	wantQuery(t, "a%26b=c%26d", "a&b", "c&d")
}

func TestQueryRefuses(t *testing.T) { // P20.1
	for _, query := range []string{"a", "&", "&&", "a&", "&a", "a=b&", "&a=b", "a=b&&c=d", "a=b&c", "a&b=c", "a=b&c&d=e", "a%3Db", "a%3db&c=d", " ", "\x00", "?", "a;b", "%26"} {
		wantNoQuery(t, query)
	}
	for _, wrong := range []string{"%", "%4", "%zz", "%g0", "%0g", "%%", "% 1", "a%", "%41%", "%4&1", "%\xFF\xFF"} {
		for _, query := range []string{wrong + "=", wrong + "=b", "=" + wrong, "a=" + wrong, "a=b&" + wrong + "=c", "a=b&c=" + wrong, wrong + "=b&c=d", "a=" + wrong + "&c=d", wrong} {
			wantNoQuery(t, query)
		}
	}
}

func TestQueryBytes(t *testing.T) { // P20.1: whatever the bytes, and however many
	for b := range 256 {
		c := one(b)
		for _, query := range []string{c, c + "=", "=" + c, "a" + c + "=b", "a=b" + c, "a=b" + c + "c=d", "%" + c + "1=", "=%4" + c} {
			told, e := route.Query(query)
			should, wrong := secondQuery(query)
			if !slices.Equal(told, should) || e != wrong {
				t.Errorf("Query of %s: %q, %d, not %q, %d", short(query), told, e, should, wrong)
			}
		}
		wantQuery(t, "%"+hex(b)+"=%"+hex(b), c, c)
	}
	wantQuery(t, "a+b=c d", "a+b", "c d")
	wantQuery(t, "é=\xFF", "é", "\xFF")
	l, e := route.Query(strings.Repeat("a=b&", 99999) + "a=b")
	want(t, "how many", len(l), 100000)
	want(t, "how many", e, api.OK)
	wantNoQuery(t, strings.Repeat("a=b&", 100000))
	wantQuery(t, "a="+strings.Repeat("%41", 100000), "a", strings.Repeat("A", 100000))
}

func TestAnswersAreApart(t *testing.T) { // R3
	a, _, _, _ := route.Split("/a/b/c")
	a = append(a[:1], "x")
	want(t, "turned", a[1], "x")
	wantSplit(t, "/a/b/c", "", false, "a", "b", "c")
	l, _ := route.Query("a=1&b=2")
	l[0].Key = "x"
	wantQuery(t, "a=1&b=2", "a", "1", "b", "2")
	m := route.Methods("/sessions")
	m[0] = "x"
	wantList(t, "Methods", route.Methods("/sessions"), []string{"DELETE", "POST"})
	wantFound(t, "DELETE", "/sessions", api.Route{Kind: api.CallRevokeAll})
}
