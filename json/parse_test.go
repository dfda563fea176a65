package json_test

import (
	"strconv"
	"strings"
	"testing"

	"atrium/api"
	"atrium/json"
)

func TestExample(t *testing.T) {
	v, e, at := json.Parse(` {"a": [1, -2], "b":"\u00e9"} `)
	want(t, "its error", e, api.OK)
	want(t, "its place", at, 0)
	wantPrint(t, v, `{"a":[1,-2],"b":"é"}`)
	wantFault(t, `[1,]`, api.ErrJSON, 3)
	wantFault(t, `{"a":1,"a":2}`, api.ErrJSON, 9)
	wantFault(t, `01`, api.ErrJSON, 1)
}

func TestParseKinds(t *testing.T) { // P16.1
	for _, x := range []struct {
		s string
		v any
	}{
		{"null", nil}, {"true", true}, {"false", false},
		{"0", 0}, {"1", 1}, {"-1", -1}, {"10", 10}, {"-10", -10}, {"1234567890", 1234567890}, {"100", 100},
		{`""`, ""}, {`"a"`, "a"}, {`"é€😀"`, "é€😀"}, {`"\u007f"`, "\x7f"}, {"\"\x7f\"", "\x7f"}, {`"null"`, "null"}, {`"[1,2]"`, "[1,2]"}, {`"'"`, "'"}, {"\"\uFFFD\uFEFF\u2028\"", "\uFFFD\uFEFF\u2028"},
		{"[]", []any{}}, {"[null]", []any{nil}}, {"[1,2,3]", []any{1, 2, 3}}, {"[[],[[]],{}]", []any{[]any{}, []any{[]any{}}, map[string]any{}}}, {`["a",true,null]`, []any{"a", true, nil}},
		{"{}", map[string]any{}}, {`{"a":1}`, map[string]any{"a": 1}}, {`{"":null}`, map[string]any{"": nil}}, {`{"a":{"a":{"a":[]}}}`, map[string]any{"a": map[string]any{"a": map[string]any{"a": []any{}}}}},
		{`{"b":1,"a":2,"B":3,"é":4}`, map[string]any{"b": 1, "a": 2, "B": 3, "é": 4}},
		{`[{"a":1},{"a":1}]`, []any{map[string]any{"a": 1}, map[string]any{"a": 1}}}, // the same name, but of two objects
		{`{"a":{"a":1},"b":{"a":2}}`, map[string]any{"a": map[string]any{"a": 1}, "b": map[string]any{"a": 2}}},
	} {
		wantValue(t, x.s, x.v)
	}
}

func TestParseEscapes(t *testing.T) { // P16.1
	for _, x := range []struct{ s, should string }{
		{`"\""`, `"`}, {`"\\"`, `\`}, {`"\/"`, "/"}, {`"/"`, "/"}, {`"\b"`, "\b"}, {`"\f"`, "\f"}, {`"\n"`, "\n"}, {`"\r"`, "\r"}, {`"\t"`, "\t"},
		{`"a\"b\\c\/d\be\ff\ng\rh\ti"`, "a\"b\\c/d\be\ff\ng\rh\ti"}, {`"\\\\\\"`, `\\\`}, {`"\\u0041"`, `\u0041`}, {`"\\n"`, `\n`},
		{`"\u0000"`, "\x00"}, {`"\u001f"`, "\x1f"}, {`"\u0020"`, " "}, {`"\u0022"`, `"`}, {`"\u005c"`, `\`}, {`"\u0041bc"`, "Abc"}, {`"\u00e9"`, "é"}, {`"\u00E9"`, "é"}, {`"\u00Ea\u00eA"`, "êê"},
		{`"\uabcd\uABCD\uAbCd"`, "\uabcd\uabcd\uabcd"}, {`"\u0800\ud7ff\ue000\uffff\uFFFD"`, "\u0800\ud7ff\ue000\uffff\ufffd"}, {`"\u0123\u4567\u89ab\ucdef"`, "\u0123\u4567\u89ab\ucdef"},
		{`"\ud800\udc00"`, "\U00010000"}, {`"\ud83d\ude00"`, "😀"}, {`"\uD83D\uDE00"`, "😀"}, {`"\uDbFf\udFfF"`, "\U0010ffff"}, {`"\ud800\udfff"`, "\U000103ff"}, {`"\udbff\udc00"`, "\U0010fc00"},
		{`"a\ud83d\ude00b\ud83d\ude00"`, "a😀b😀"}, {`"\ud83d\ude00\u0041\n"`, "😀A\n"},
	} {
		wantValue(t, x.s, x.should)
		wantValue(t, "{"+x.s+":"+x.s+"}", map[string]any{x.should: x.should})
	}
	for b := range 256 { // each byte behind a backslash
		if !strings.ContainsRune(`"\/bfnrtu`, rune(b)) {
			wantFault(t, `"\`+string([]byte{byte(b)})+`"`, api.ErrJSON, 2)
			wantFault(t, `{"\`+string([]byte{byte(b)})+`":1}`, api.ErrJSON, 3)
		}
	}
}

func TestParseUnits(t *testing.T) { // P16.1: each unit, alone and ahead of a second half
	for n := range 0x10000 {
		s := `"\u` + strconv.FormatInt(int64(0x10000+n), 16)[1:]
		switch {
		case n >= 0xDC00 && n <= 0xDFFF:
			wantFault(t, s+`"`, api.ErrJSON, 4)
		case n >= 0xD800 && n <= 0xDBFF:
			wantFault(t, s+`"`, api.ErrJSON, 7)
			wantValue(t, s+`\udc00"`, string(rune(0x10000+(n-0xD800)*1024)))
			wantValue(t, s+`\uDFFF"`, string(rune(0x10000+(n-0xD800)*1024+1023)))
		default:
			wantValue(t, s+`"`, string(rune(n)))
			wantFault(t, s+`\udc00"`, api.ErrJSON, 10)
		}
	}
}

func TestParseLoneUnits(t *testing.T) { // P16.1: each with the place at which it shows
	for _, x := range []struct {
		s  string
		at int
	}{
		{`"\ud800"`, 7}, {`"\udbff"`, 7}, {`"\ud800`, 7}, {`"\ud800a"`, 7}, {`"\ud800é"`, 7}, {"\"\\ud800\xff\"", 7}, {"\"\\ud800\n\"", 7}, {`"\ud800 \udc00"`, 7}, {`"\ud800\`, 8}, {`"\ud800\"`, 8}, {`"\ud800\n"`, 8}, {`"\ud800\\udc00"`, 8}, {`"\ud800\Udc00"`, 8}, {`"\ud800\/"`, 8},
		{`"\ud800\u`, 9}, {`"\ud800\u"`, 9}, {`"\ud800\u0041"`, 9}, {`"\ud800\ue000"`, 9}, {`"\ud800\ucc00"`, 9}, {`"\ud800\ug"`, 9}, {`"\ud800\ud`, 10}, {`"\ud800\uD7ff"`, 10}, {`"\ud800\ud800\udc00"`, 10}, {`"\ud800\udbff"`, 10}, {`"\ud800\udg"`, 10}, {`"\ud800\ud"`, 10}, {`"\ud800\ude`, 11}, {`"\ud800\udeg"`, 11}, {`"\ud800\ude0"`, 12}, {`"\ud800\ude0`, 12}, {`"\ud800\ude00`, 13},
		{`"\udc00"`, 4}, {`"\uDFFF"`, 4}, {`"\udFff"`, 4}, {`"\uDe00\ud800"`, 4}, {`"\ud`, 4}, {`"\ud"`, 4}, {`"\udc`, 4}, {`"\ud7`, 5}, {`"\udbx`, 5},
		{`"ab\udc00"`, 6}, {`"\ud83d\ude00\udc00"`, 16}, {`"\ud83d\ude00\ud800"`, 19}, {`["\udc00"]`, 5}, {`{"\udc00":1}`, 5}, {`{"\ud800":1}`, 8}, {`{"a":"\ud800"}`, 12},
	} {
		wantFault(t, x.s, api.ErrJSON, x.at)
	}
}

func TestParseWrongDigitsOfUnits(t *testing.T) { // P16.1
	for i := range 4 {
		for b := range 256 {
			if strings.ContainsRune("0123456789abcdefABCDEF", rune(b)) {
				continue
			}
			s := []byte(`x"\u0000"`)
			s[4+i] = byte(b)
			wantFault(t, string(s[1:]), api.ErrJSON, 3+i)
		}
		wantFault(t, `"\u0000"`[:3+i], api.ErrJSON, 3+i)
		wantFault(t, `"\u0000"`[:3+i]+`"`, api.ErrJSON, 3+i)
	}
}

func TestParseBytesInStrings(t *testing.T) { // P16.1: below 32, and of wrong UTF-8
	for b := range 256 {
		s := string([]byte{byte(b)})
		switch {
		case b == '"' || b == '\\':
			continue
		case b < 32 || b >= 128:
			wantFault(t, `"`+s+`"`, api.ErrJSON, 1)
			wantFault(t, `"é`+s+`"`, api.ErrJSON, 3)
			wantFault(t, `"`+s, api.ErrJSON, 1)
			wantFault(t, `["a`+s+`b"]`, api.ErrJSON, 3)
			wantFault(t, `{"a`+s+`b":1}`, api.ErrJSON, 3)
			wantFault(t, `{"a":"\n`+s+`"}`, api.ErrJSON, 8)
		default:
			wantValue(t, `"`+s+`"`, s)
			wantValue(t, `"é`+s+`"`, "é"+s)
		}
	}
	for _, w := range []string{ // the first byte of a wrong rune, also where a later one shows it, or the text ends
		"\xC3", "\xC3(", "\xC3\xC3", "\xE2", "\xE2\x82", "\xE2\x82(", "\xE2(\xA1", "\xF0", "\xF0\x9F", "\xF0\x9F\x98", "\xF0\x9F\x98(",
		"\xC0\x80", "\xC1\xBF", "\xE0\x80\x80", "\xE0\x9F\xBF", "\xF0\x8F\xBF\xBF", "\xED\xA0\x80", "\xED\xBF\xBF", "\xF4\x90\x80\x80", "\xF5\x80\x80\x80", "\x80", "\xBF", "\xF8\x88\x80\x80\x80", "\xFE", "\xFF",
	} {
		for _, ahead := range []string{``, `a`, `é`, `😀`, "\uFFFD", `\n`, `\u00e9`, `\ud83d\ude00`} {
			for _, behind := range []string{`"`, `b"`, `é"`, `\n"`, "\xFF\"", ``} {
				wantFault(t, `"`+ahead+w+behind, api.ErrJSON, 1+len(ahead))
				wantFault(t, `{"a": "`+ahead+w+behind, api.ErrJSON, 7+len(ahead))
				wantFault(t, `{"`+ahead+w+behind, api.ErrJSON, 2+len(ahead))
			}
		}
	}
}

func TestParseBytesOutside(t *testing.T) { // P16.1: of what stands in no string, each byte that may not begin or follow
	for b := range 256 {
		s := string([]byte{byte(b)})
		if !strings.Contains(" \t\r\n[{\"-0123456789ntf", s) {
			wantFault(t, s, api.ErrJSON, 0)
			wantFault(t, " "+s+"1", api.ErrJSON, 1)
			wantFault(t, "[1,"+s, api.ErrJSON, 3)
			wantFault(t, `{"a":`+s, api.ErrJSON, 5)
		}
		if !strings.Contains(" \t\r\n", s) {
			wantFault(t, "null"+s, api.ErrJSON, 4)
			wantFault(t, "{} "+s, api.ErrJSON, 3)
			wantFault(t, "0"+s, api.ErrJSON, 1)
			wantFault(t, `"a"`+s+`"b"`, api.ErrJSON, 3)
			if s != ":" {
				wantFault(t, `{"a" `+s, api.ErrJSON, 5)
			}
			if s != "," && s != "]" {
				wantFault(t, "[true"+s, api.ErrJSON, 5)
			}
			if s != "," && s != "}" {
				wantFault(t, `{"a":[]`+s, api.ErrJSON, 7)
			}
			if s != `"` {
				wantFault(t, `{"a":1,`+s, api.ErrJSON, 7)
			}
		}
	}
	for _, s := range []string{"é", "\xEF\xBB\xBF1", "\u00A0", "\u2028", "\xC3", "\xC3\x28", "\xFF\xFE", "\v", "\f", "\x00"} {
		wantFault(t, s, api.ErrJSON, 0)
		wantFault(t, "[1"+s+"]", api.ErrJSON, 2)
		wantFault(t, "1 "+s, api.ErrJSON, 2)
	}
}

func TestParseNumbers(t *testing.T) { // P16.1
	const most = 1<<63 - 1
	for _, x := range []struct {
		s string
		n int
	}{
		{"9223372036854775807", most}, {"-9223372036854775807", -most}, {"9223372036854775806", most - 1}, {"9223372036854775799", most - 8}, {"1000000000000000000", 1000000000000000000}, {"999999999999999999", 999999999999999999}, {"-9", -9}, {"90", 90},
	} {
		wantValue(t, x.s, x.n)
		wantValue(t, "["+x.s+" ]", []any{x.n})
	}
	for _, x := range []struct {
		s  string
		at int
	}{
		{"9223372036854775808", 18}, {"9223372036854775809", 18}, {"-9223372036854775808", 19}, {"-9223372036854775809", 19}, {"9223372036854775810", 18}, {"9223372036854775900", 18}, {"9300000000000000000", 18}, {"9999999999999999999", 18},
		{"10000000000000000000", 19}, {"92233720368547758070", 19}, {"-92233720368547758070", 20}, {"18446744073709551616", 19}, {"18446744073709551617", 19}, {"99999999999999999999999999", 18}, {"11111111111111111111111111", 19}, {"[9223372036854775808]", 19}, {`{"a":-9223372036854775808}`, 24}, {"9223372036854775808x", 18}, {"922337203685477580x", 18}, {"9223372036854775807.0", 19},
		{"-", 1}, {"- ", 1}, {"-a", 1}, {"- 1", 1}, {"--1", 1}, {"-0", 1}, {"-00", 1}, {"-01", 1}, {"-0.0", 1}, {"[-0]", 2}, {"[-]", 2}, {"-\"", 1}, {"-[", 1}, {"-n", 1},
		{"00", 1}, {"01", 1}, {"007", 1}, {"[00]", 2}, {"[01]", 2}, {"0 1", 2}, {"[0 1]", 3},
		{"1.5", 1}, {"1.0", 1}, {"0.5", 1}, {"10.", 2}, {"-1.5", 2}, {"1e5", 1}, {"1E5", 1}, {"0e0", 1}, {"1e+5", 1}, {"-1e-5", 2}, {"[1.5]", 2}, {"12.5", 2}, {".5", 0}, {"+1", 0}, {"1+1", 1}, {"1-1", 1}, {"1,", 1}, {"0x10", 1}, {"1_000", 1}, {"1a", 1}, {"Infinity", 0}, {"-Infinity", 1}, {"NaN", 0}, {"1 2", 2}, {"٣", 0}, {"１", 0},
	} {
		wantFault(t, x.s, api.ErrJSON, x.at)
	}
}

func TestParseNamesTwice(t *testing.T) { // P16.1
	for _, x := range []struct {
		s  string
		at int
	}{
		{`{"a":1,"a":2}`, 9}, {`{"a":1,"a":1}`, 9}, {`{"":1,"":2}`, 7}, {`{"a":1,"\u0061":2}`, 14}, {`{"\u0061":1,"a":2}`, 14}, {`{"\u0061":1,"\u0061":2}`, 19}, {`{"/":1,"\/":2}`, 10}, {`{"\n":1,"\u000a":2}`, 15}, {`{"é":1,"\u00e9":2}`, 15}, {`{"\ud83d\ude00":1,"😀":2}`, 23}, {`{"😀":1,"\uD83D\uDE00":2}`, 23},
		{`{"a":1,"b":2,"a":3}`, 15}, {`{"a":1,"b":2,"b":3}`, 15}, {`{"a":{"a":1,"a":2}}`, 14}, {`{"x":{"a":1},"x"`, 15}, {`{"a":1, "a" :2}`, 10}, {`{"a":1,"a"`, 9}, {`{"a":null,"a":null}`, 12}, {`[{"a":1},{"a":1,"a":2}]`, 18}, {`{"a":{"b":1,"b":2},"a":3}`, 14}, {`{"a":[{"b":1}],"b":2,"a"}`, 23}, {`{"a":1,"ab":2,"a":3}`, 16},
	} {
		wantFault(t, x.s, api.ErrJSON, x.at)
	}
	wantFault(t, `{"a":1,"a`, api.ErrJSON, 9) // it could become another name
	wantFault(t, "{\"a\":1,\"a\n", api.ErrJSON, 9)
	wantFault(t, `{"a":1,"a\`, api.ErrJSON, 10)
	wantValue(t, `{"a":1,"A":2,"a ":3,"aa":4,"":5,"\u0000":6}`, map[string]any{"a": 1, "A": 2, "a ": 3, "aa": 4, "": 5, "\x00": 6})
	wantValue(t, `{"é":1,"e\u0301":2}`, map[string]any{"\u00e9": 1, "e\u0301": 2}) // they look the same, but are not
}

func TestParseDepth(t *testing.T) { // P16.1
	arrays := func(n int) string { return strings.Repeat("[", n) + strings.Repeat("]", n) }
	objects := func(n int, inside string) string {
		return strings.Repeat(`{"a":`, n) + inside + strings.Repeat("}", n)
	}
	wantValue(t, arrays(16), nest([]any{}, 15, 0))
	wantValue(t, objects(16, "1"), nest(1, 0, 16))
	wantValue(t, objects(15, "{}"), nest(map[string]any{}, 0, 15))
	wantValue(t, objects(8, arrays(8)), nest([]any{}, 7, 8))
	wantValue(t, "["+arrays(15)+","+arrays(15)+"]", []any{nest([]any{}, 14, 0), nest([]any{}, 14, 0)})
	wantFault(t, arrays(17), api.ErrDeep, 16)
	wantFault(t, arrays(1000), api.ErrDeep, 16)
	wantFault(t, strings.Repeat("[", api.MaxJSON), api.ErrDeep, 16)
	wantFault(t, strings.Repeat("[", 17), api.ErrDeep, 16)
	wantFault(t, strings.Repeat("[", 16), api.ErrJSON, 16)
	wantFault(t, strings.Repeat("[ ", 17), api.ErrDeep, 32)
	wantFault(t, objects(17, "1"), api.ErrDeep, 80)
	wantFault(t, objects(16, "{}"), api.ErrDeep, 80)
	wantFault(t, objects(16, "[]"), api.ErrDeep, 80)
	wantFault(t, objects(8, arrays(9)), api.ErrDeep, 48)
	wantFault(t, strings.Repeat("[", 16)+"{", api.ErrDeep, 16)
	wantFault(t, strings.Repeat("[", 16)+"1,[", api.ErrDeep, 18)
	wantFault(t, "["+arrays(15)+","+arrays(16), api.ErrDeep, 47)
	wantFault(t, strings.Repeat("[", 16)+"1[", api.ErrJSON, 17) // no array can begin there
	wantFault(t, strings.Repeat("[", 15)+"{[", api.ErrJSON, 16)
	wantFault(t, strings.Repeat("[", 15)+"{{", api.ErrJSON, 16)
	wantFault(t, arrays(16)+"[", api.ErrJSON, 32)
	wantValue(t, `"`+strings.Repeat("[", 100)+`"`, strings.Repeat("[", 100))
}

func TestParseLengths(t *testing.T) { // P16.1
	long := strings.Repeat("a", api.MaxJSON-2)
	wantValue(t, `"`+long+`"`, long)
	wantValue(t, strings.Repeat(" ", api.MaxJSON-1)+"1", 1)
	wantValue(t, "1"+strings.Repeat("\n", api.MaxJSON-1), 1)
	wantFault(t, strings.Repeat(" ", api.MaxJSON), api.ErrJSON, api.MaxJSON)
	wantFault(t, `"`+long+"a", api.ErrJSON, api.MaxJSON)
	for _, s := range []string{`"` + long + `a"`, strings.Repeat(" ", api.MaxJSON) + "1", "1" + strings.Repeat(" ", api.MaxJSON), strings.Repeat("]", api.MaxJSON+1), strings.Repeat("[", api.MaxJSON+1), strings.Repeat("\xff", 1<<20)} {
		wantFault(t, s, api.ErrLong, api.MaxJSON)
	}
	items := strings.Repeat("0,", (api.MaxJSON-4)/2) + "00"
	wantFault(t, "["+items+"]", api.ErrJSON, api.MaxJSON-2)
	v, e, at := json.Parse("[" + items[:len(items)-1] + " ]")
	l, is := json.Items(v)
	want(t, "many items", e, api.OK)
	want(t, "many items", at, 0)
	want(t, "many items", is, true)
	want(t, "many items", len(l), api.MaxJSON/2-1)
}

func TestParseCutOff(t *testing.T) { // P16.1: of each text each begin
	for _, s := range []string{
		"null", "true", "false", `"abc"`, `"a\"\\\/\b\f\n\r\t\u00e9\ud83d\ude00z"`, "[]", "{}", "[1,-2]", `[ 1 , "a" , null , true , false , [ ] , { } ]`, `{"a":1,"b":[{"c":"d"}]}`, `{ "a" : { "b" : [ 10 , -20 ] } , "c" : "\n" }`, "\t[\r\n]", strings.Repeat("[", 16) + strings.Repeat("]", 16),
	} {
		for i := range len(s) {
			wantFault(t, s[:i], api.ErrJSON, i)
		}
	}
	for i := 1; i < 19; i++ { // what is left of a number is one
		n, _ := strconv.Atoi("1234567890123456789"[:i])
		wantValue(t, "1234567890123456789"[:i], n)
		wantValue(t, "-1234567890123456789"[:i+1], -n)
	}
	for s, at := range map[string]int{"\"\xC3": 1, "\"a\xE2": 2, "\"a\xE2\x82": 2, "\"\xF0\x9F\x98": 1, "{\"é\xC3": 4} { // what is left of a rune is wrong
		wantFault(t, s, api.ErrJSON, at)
	}
}

func TestParseMarks(t *testing.T) { // P16.1: commas, colons, brackets, words: too many, too few, others
	for _, x := range []struct {
		s  string
		at int
	}{
		{"", 0}, {" ", 1}, {" \t\r\n", 4}, {",", 0}, {":", 0}, {"]", 0}, {"}", 0}, {"'a'", 0}, {"a", 0}, {"\\", 0}, {"//", 0}, {"/**/1", 0},
		{"[,]", 1}, {"[1,]", 3}, {"[1,,2]", 3}, {"[,1]", 1}, {"[1 2]", 3}, {"[1:2]", 2}, {"[1}", 2}, {"[}", 1}, {"[1,}", 3}, {"[1]]", 3}, {"[[1]", 4}, {"[1],", 3}, {"[1,2", 4}, {"[1,", 3}, {"[", 1}, {"[ ", 2}, {"[]]", 2}, {"[][]", 2}, {"[] []", 3}, {`["a" "b"]`, 5}, {`["a":1]`, 4}, {"[1;2]", 2}, {"[1, ]", 4}, {"[\n,]", 2}, {"[1]1", 3},
		{"{,}", 1}, {`{"a"}`, 4}, {`{"a":}`, 5}, {`{"a":1,}`, 7}, {`{"a":1,,"b":2}`, 7}, {`{,"a":1}`, 1}, {`{"a" 1}`, 5}, {`{"a",1}`, 4}, {`{"a"::1}`, 5}, {`{"a":1:2}`, 6}, {`{"a":1 "b":2}`, 7}, {`{"a":1]`, 6}, {"{]", 1}, {`{"a":1}}`, 7}, {`{"a":{"b":1}`, 12}, {"{", 1}, {`{"a`, 3}, {`{"a"`, 4}, {`{"a":`, 5}, {`{"a":1`, 6}, {`{"a":1,`, 7}, {"{1:2}", 1}, {"{a:1}", 1}, {"{null:1}", 1}, {"{true:1}", 1}, {`{[]:1}`, 1}, {"{{}:1}", 1}, {"{'a':1}", 1}, {`{"a":1,2}`, 7}, {`{"a":1,null}`, 7}, {`{"a":1,}`, 7}, {`{"a":1,]`, 7}, {`{"a":,"b":1}`, 5}, {`{:1}`, 1}, {`{"a"=1}`, 4}, {"{}{}", 2}, {"{},", 2}, {`{"a":1},{"b":2}`, 7},
		{"nul", 3}, {"nulL", 3}, {"nullx", 4}, {"null null", 5}, {"Null", 0}, {"NULL", 0}, {"n", 1}, {"nn", 1}, {"none", 1}, {"nil", 1}, {"tru", 3}, {"True", 0}, {"truE", 3}, {"t rue", 1}, {"truefalse", 4}, {"fals", 4}, {"FALSE", 0}, {"falsee", 5}, {"fasle", 2}, {"[nul]", 4}, {"[tru,1]", 4}, {"undefined", 0},
		{`"`, 1}, {`"a`, 2}, {`"a""b"`, 3}, {`"a"b`, 3}, {`"a",`, 3}, {`"a" :`, 4}, {`"\`, 2}, {`"\"`, 3}, {`"\a"`, 2}, {`"\'"`, 2}, {`"\0"`, 2}, {`"\x41"`, 2}, {`"\N"`, 2}, {`"\U0041"`, 2}, {`"\ "`, 2}, {`"\u"`, 3}, {`"\u1"`, 4}, {`"\u12"`, 5}, {`"\u123"`, 6}, {`"\u12g4"`, 5}, {`"\u 123"`, 3}, {`"\u+123"`, 3}, {"\"a\nb\"", 2}, {"\"\t\"", 1},
		{"1 ,", 2}, {"1 1", 2}, {"1\x00", 1}, {" 1 \x00", 3}, {"[1\x00]", 2}, {"\x001", 0}, {"null\x00", 4},
	} {
		wantFault(t, x.s, api.ErrJSON, x.at)
		e, at := tell(x.s) // the second telling of the chapter is held against the table, too
		want(t, x.s, e, api.ErrJSON)
		want(t, x.s, at, x.at)
	}
}
