package cookie_test

import (
	"slices"
	"strings"
	"testing"

	"atrium/api"
	"atrium/cookie"
)

func TestExample(t *testing.T) {
	wantPairs(t, `a=1; b="2"`, pairsOf("a", "1", "b", `"2"`))
	wantFound(t, []string{`a=1; b="2"`}, "b", "2", true)
	wantNone(t, "a=1;b=2")
}

func TestParse(t *testing.T) { // P19.1, P19.4
	wantPairs(t, "a=1", pairsOf("a", "1"))
	wantPairs(t, "a=", pairsOf("a", ""))
	wantPairs(t, "a=; b=; a=", pairsOf("a", "", "b", "", "a", ""))
	wantPairs(t, "b=2; a=1; b=3", pairsOf("b", "2", "a", "1", "b", "3")) // in order, and twice
	wantPairs(t, "sid=AAAAAAAAAAAAAAAAAAAAAA; Theme=dark", pairsOf("sid", "AAAAAAAAAAAAAAAAAAAAAA", "Theme", "dark"))
	wantPairs(t, "a=b=c; d==; e===f", pairsOf("a", "b=c", "d", "=", "e", "==f")) // the first equals sign ends a name
	long := strings.Repeat("x", 100000)
	wantPairs(t, long+"="+long+"; "+long+`="`+long+`"`, pairsOf(long, long, long, `"`+long+`"`))
}

func TestHowMany(t *testing.T) { // P19.1
	for n := range 40 {
		l, s := many(n)
		if n >= 1 && n <= 16 {
			wantPairs(t, s, l)
			continue
		}
		wantNone(t, s)
		wantUnprinted(t, l)
	}
	_, s := many(50000)
	wantNone(t, s)
	wantNone(t, strings.Repeat("; ", 50000))
}

func TestParted(t *testing.T) { // P19.1: by a semicolon and one blank, and by nothing else
	for _, s := range []string{
		"", " ", ";", "; ", "=", "a", "a;", "a; ", "; a", "; ;",
		"a=1;b=2", "a=1;  b=2", "a=1 ; b=2", "a=1; ;b=2", "a=1; ; b=2", "a=1;; b=2", "a=1;\tb=2", "a=1;\nb=2", "a=1;\r\n b=2", "a=1, b=2", "a=1,b=2", "a=1& b=2", "a=1 b=2", "a=1;\u00A0b=2",
		"a=1;", "a=1; ", "a=1;  ", "a=1; b=2;", "a=1; b=2; ", ";a=1", "; a=1", " a=1", "a=1 ", "\ta=1", "a=1\t", "a=1\r\n", "a=1\n",
		"a=1; b", "a; b=2", "a=1; =2", "=1; b=2", "a=1; b c=2", "a = 1", "a= 1", "a =1",
	} {
		wantNone(t, s)
	}
	for n := 1; n <= 16; n++ { // with one behind the last
		_, s := many(n)
		for _, behind := range []string{";", "; ", ";a=1", " ", "; =", "; a"} {
			wantNone(t, s+behind)
		}
	}
}

func TestNames(t *testing.T) { // P19.1: each byte, alone and between others
	for b := range 256 {
		c := one(b)
		for _, name := range []string{c, c + "a", "a" + c, "a" + c + "b"} {
			should := pairsOf(name, "1")
			if strings.Contains(tokens, c) {
				wantPairs(t, name+"=1", should)
				wantPairs(t, "x=y; "+name+"=1", append(pairsOf("x", "y"), should...))
				continue
			}
			wantUnprinted(t, should)
			wantUnprinted(t, append(pairsOf("x", "y"), should...))
			if c != "=" || strings.HasPrefix(name, c) { // else the name ends there
				wantNone(t, name+"=1")
				wantNone(t, "x=y; "+name+"=1")
			}
		}
	}
	wantPairs(t, tokens+"=1", pairsOf(tokens, "1"))
	for _, name := range []string{"", "é", "a b", "a;", `"a"`, "a=", "a=b", " a", "a ", "a\x00"} {
		wantUnprinted(t, pairsOf(name, "1"))
		wantUnprinted(t, pairsOf("a", "1", name, "1"))
		wantUnprinted(t, pairsOf(name, "1", "a", "1"))
	}
	wantNone(t, "=1")
	wantNone(t, "=")
	wantNone(t, "é=1")
	wantNone(t, `"a"=1`)
}

func TestValues(t *testing.T) { // P19.1: each byte, alone, between others, and in quotation marks
	for b := range 256 {
		c := one(b)
		for _, value := range []string{c, c + "a", "a" + c, "a" + c + "b", `"` + c + `"`, `"` + c + `a"`, `"a` + c + `"`, `"a` + c + `b"`} {
			should := pairsOf("n", value)
			if strings.Contains(bares, c) {
				wantPairs(t, "n="+value, should)
				wantPairs(t, "n="+value+"; x=y", append(should, pairsOf("x", "y")...))
				continue
			}
			wantUnprinted(t, should)
			wantUnprinted(t, append(should, pairsOf("x", "y")...))
			wantNone(t, "n="+value)
			wantNone(t, "n="+value+"; x=y")
		}
	}
	wantPairs(t, "n="+bares, pairsOf("n", bares))
	wantPairs(t, `n="`+bares+`"`, pairsOf("n", `"`+bares+`"`))
}

func TestMarks(t *testing.T) { // P19.1
	for _, value := range []string{`""`, `"a"`, `"="`, `"a=b"`} {
		wantPairs(t, "n="+value, pairsOf("n", value))
		wantPairs(t, "x=y; n="+value+"; z=", pairsOf("x", "y", "n", value, "z", ""))
	}
	for _, value := range []string{`"`, `"a`, `a"`, `a"b`, `"""`, `""""`, `""a`, `a""`, `"a"b`, `a"b"`, `"a"b"`, `"a""b"`, `"a b"`, `"a; b"`, `"a;b"`, `"a,b"`, `"a\"`, `"a\"b"`, `'a"`, `" "`} {
		wantUnprinted(t, pairsOf("n", value))
		wantNone(t, "n="+value)
		wantNone(t, "n="+value+"; x=y")
		wantNone(t, "x=y; n="+value)
	}
	wantPairs(t, "n='a'", pairsOf("n", "'a'")) // these are a value's bytes
}

func TestPrintWrong(t *testing.T) { // P19.1: one wrong pair at each place
	wantUnprinted(t, nil)
	wantUnprinted(t, []api.Pair{})
	wantUnprinted(t, pairsOf("", ""))
	for n := 1; n <= 16; n++ {
		for i := range n {
			for _, p := range pairsOf("", "1", "a b", "1", "a", "1 ", "a", `"`, "a", "1; b=2", "a=1; b", "2", "a", "\xFF") {
				l, _ := many(n)
				l[i] = p
				wantUnprinted(t, l)
			}
		}
	}
}

func TestFind(t *testing.T) { // P19.2
	for _, x := range []struct {
		values       []string
		name, should string
		is           bool
	}{
		{nil, "a", "", false},
		{[]string{}, "a", "", false},
		{[]string{""}, "", "", false},
		{[]string{"a=1"}, "a", "1", true},
		{[]string{"a=1"}, "b", "", false},
		{[]string{"a=1"}, "", "", false},
		{[]string{"a="}, "a", "", true},
		{[]string{"a=1; a=2"}, "a", "1", true},          // twice in one
		{[]string{"b=0; a=1", "a=2"}, "a", "1", true},   // in two
		{[]string{"b=0", "c=1", "a=2"}, "a", "2", true}, // in the last
		{[]string{"a=1", "a=2; b=3"}, "b", "3", true},
		{[]string{"A=1; a=2"}, "a", "2", true}, // letter by letter
		{[]string{"a=1; A=2"}, "A", "2", true},
		{[]string{"A=1"}, "a", "", false},
		{[]string{"a=1"}, "A", "", false},
		{[]string{"sid2=1; si=2; sid=3"}, "sid", "3", true}, // all of them
		{[]string{"sidx=1; xsid=2"}, "sid", "", false},
		{[]string{"a=1;b=2"}, "a", "", false}, // in one that is refused
		{[]string{"a=1;b=2", "a=3"}, "a", "3", true},
		{[]string{"a=1; a", "", "bad", "a=\"", "a=4"}, "a", "4", true},
		{[]string{"a=1; b=2 "}, "a", "", false}, // also if the pair ahead of the fault would be one
		{[]string{`a="1"`}, "a", "1", true},     // with marks
		{[]string{`a=""`}, "a", "", true},
		{[]string{`a="'1'"`}, "a", "'1'", true},
		{[]string{`a="1"; a=2`}, "a", "1", true},
		{[]string{`a="1`, `a=1"`, `a="`, `a=2`}, "a", "2", true},
		{[]string{"a==1="}, "a", "=1=", true},
		{[]string{"a=1"}, "a=1", "", false}, // names of none
		{[]string{"a=1"}, "a=", "", false},
		{[]string{"a=1; b=2"}, "a=1; b", "", false},
		{[]string{"a=1"}, "é", "", false},
		{[]string{"\x00=1", "a=1"}, "\x00", "", false},
	} {
		kept := slices.Clone(x.values)
		wantFound(t, x.values, x.name, x.should, x.is)
		if !slices.Equal(kept, x.values) {
			t.Errorf("%q was changed", x.values)
		}
	}
	_, full := many(16)
	_, over := many(17)
	wantFound(t, []string{full}, "n15", "15", true)
	wantFound(t, []string{over}, "n0", "", false)
	wantFound(t, []string{over, full}, "n0", "0", true)
	wantFound(t, []string{strings.Repeat("x=y; ", 15) + "a=1"}, "a", "1", true)
	wantFound(t, slices.Repeat([]string{"a=1;"}, 1000), "a", "", false)
	wantFound(t, append(slices.Repeat([]string{"a=1;"}, 1000), `a="2"`), "a", "2", true)
}

func TestAnswersAreApart(t *testing.T) { // R3
	a, _ := cookie.Parse("a=1; b=2; c=3")
	b, _ := cookie.Parse("a=1; b=2; c=3")
	a[0].Value = "x"
	a = append(a[:1], pairsOf("y", "z")...)
	want(t, "turned", a[1].Key, "y")
	want(t, "the other one", slices.Equal(b, pairsOf("a", "1", "b", "2", "c", "3")), true)
	l := pairsOf("a", "1", "b", "2", "c", "3")
	kept := slices.Clone(l)
	cookie.Print(l[:2])
	want(t, "what was handed in", slices.Equal(l, kept), true)
}
