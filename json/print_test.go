package json_test

import (
	"bytes"
	stdjson "encoding/json"
	"math"
	"math/rand"
	"strings"
	"testing"

	"atrium/api"
	"atrium/json"
)

type (
	ownInt    int
	ownText   string
	ownBool   bool
	ownList   []any
	ownObject map[string]any
)

// others are what no value is.
func others() map[string]any {
	n, none := 1, (*int)(nil)
	var face error
	var inside any = 1
	return map[string]any{
		"int8": int8(1), "int16": int16(1), "int32": int32(1), "int64": int64(1), "uint": uint(1), "uint8": uint8(1), "uint16": uint16(1), "uint32": uint32(1), "uint64": uint64(1), "uintptr": uintptr(1),
		"float32": float32(1), "float64": 1.5, "a whole float64": 2.0, "NaN": math.NaN(), "complex": 1i, "rune": 'a', "bytes": []byte("a"), "texts": []string{"a"}, "ints": []int{1}, "nil texts": []string(nil), "runes": []rune{1}, "lists": [][]any{{}}, "objects": []map[string]any{},
		"array": [1]any{1}, "map of texts": map[string]string{"a": "b"}, "map of ints": map[int]any{1: 1}, "map of any": map[any]any{"a": 1}, "nil map of texts": map[string]string(nil), "struct": struct{}{}, "struct with a field": struct{ A int }{1},
		"pointer": &n, "nil pointer": none, "pointer to any": &inside, "pointer to nil": &face, "function": func() {}, "nil function": (func())(nil), "channel": make(chan int), "error": api.Errno(1), "number of the library": stdjson.Number("1"), "raw": stdjson.RawMessage("1"),
		"own int": ownInt(1), "own text": ownText("a"), "own bool": ownBool(true), "own list": ownList{1}, "own object": ownObject{"a": 1}, "pointer to a list": &[]any{1}, "pointer to an object": &map[string]any{"a": 1},
	}
}

// almost are ints and strings that are no values, though they are of a value's type.
func almost() map[string]any {
	return map[string]any{"the least int": math.MinInt, "a wrong byte": "\xff", "a rune cut off": "a\xc3", "a surrogate": "\xed\xa0\x80", "a long form": "\xc0\x80", "beyond the last rune": "\xf4\x90\x80\x80"}
}

func TestPrint(t *testing.T) { // P16.2
	for _, x := range []struct {
		v any
		s string
	}{
		{nil, "null"}, {true, "true"}, {false, "false"}, {0, "0"}, {7, "7"}, {-7, "-7"}, {1000, "1000"}, {math.MaxInt, "9223372036854775807"}, {-math.MaxInt, "-9223372036854775807"}, {math.MinInt + 1, "-9223372036854775807"},
		{"", `""`}, {"abc", `"abc"`}, {"é€😀", `"é€😀"`}, {"\"\\\b\f\n\r\t", `"\"\\\b\f\n\r\t"`}, {"/<>&'", `"/<>&'"`}, {"\x7f\u0080\u2028\uFEFF\uFFFD\uFFFF\U0010FFFF", "\"\x7f\u0080\u2028\uFEFF\uFFFD\uFFFF\U0010FFFF\""}, {"\x00\x01\x1f", `"\u0000\u0001\u001f"`},
		{[]any{}, "[]"}, {[]any(nil), "[]"}, {[]any{nil}, "[null]"}, {[]any{1, "a", true, nil}, `[1,"a",true,null]`}, {[]any{[]any{}, map[string]any{}, []any(nil), map[string]any(nil)}, "[[],{},[],{}]"},
		{map[string]any{}, "{}"}, {map[string]any(nil), "{}"}, {map[string]any{"a": 1}, `{"a":1}`}, {map[string]any{"": nil}, `{"":null}`}, {map[string]any{"\"\n\x02": "\x02"}, `{"\"\n\u0002":"\u0002"}`},
		{map[string]any{"b": 1, "a": 2, "B": 3, "aa": 4, "": 5, "é": 6, "\x01": 7, "z": 8, "😀": 9, "\uFFFD": 10, "1": 11, "10": 12, "2": 13}, `{"":5,"\u0001":7,"1":11,"10":12,"2":13,"B":3,"a":2,"aa":4,"b":1,"z":8,"é":6,"` + "\uFFFD" + `":10,"😀":9}`},
		{map[string]any{"a": []any{1, -2}, "b": map[string]any{"d": 1, "c": nil}}, `{"a":[1,-2],"b":{"c":null,"d":1}}`},
	} {
		wantPrint(t, x.v, x.s)
	}
}

func TestQuote(t *testing.T) { // P16.2: each byte below 32, and those that have a mark
	const digits = "0123456789abcdef"
	marks := map[int]string{'"': `\"`, '\\': `\\`, 8: `\b`, 12: `\f`, 10: `\n`, 13: `\r`, 9: `\t`}
	for b := range 128 {
		should := string(rune(b))
		if b < 32 {
			should = `\u00` + digits[b/16:b/16+1] + digits[b%16:b%16+1]
		}
		if m := marks[b]; m != "" {
			should = m
		}
		for _, x := range []struct{ s, should string }{{string(rune(b)), should}, {"a" + string(rune(b)) + "é", "a" + should + "é"}, {"é" + string(rune(b)) + string(rune(b)), "é" + should + should}} {
			s, is := json.Quote(x.s)
			want(t, "its text", s, `"`+x.should+`"`)
			want(t, "its text", is, true)
			wantPrint(t, x.s, `"`+x.should+`"`)
			wantValue(t, s, x.s)
		}
	}
	for _, w := range []string{"\x80", "\xff", "\xc3", "\xe2\x82", "\xf0\x9f\x98", "\xc0\x80", "\xed\xa0\x80", "\xf4\x90\x80\x80"} {
		for _, text := range []string{w, "a" + w, w + "b", "é\n" + w + "\"", "\uFFFD" + w} {
			s, is := json.Quote(text)
			want(t, "wrong bytes", s, "")
			want(t, "wrong bytes", is, false)
			wantNoPrint(t, "wrong bytes", text, api.ErrValue)
		}
	}
	s, is := json.Quote("")
	want(t, "nothing", s, `""`)
	want(t, "nothing", is, true)
	long := strings.Repeat("a", 1<<20) // no limit is Quote's
	s, is = json.Quote(long)
	want(t, "a long one", s == `"`+long+`"`, true)
	want(t, "a long one", is, true)
}

// wantNone is that v is no value, at each depth, ahead of, between and behind values.
func wantNone(t *testing.T, what string, v any) {
	t.Helper()
	for depth := range 17 {
		for objects := range depth + 1 {
			x := nest(v, depth-objects, objects)
			wantNoPrint(t, what, x, api.ErrValue)
			s, e := json.Indent(x, 2)
			want(t, what, s, "")
			want(t, what, e, api.ErrValue)
			want(t, what, json.Same(x, x), false)
		}
	}
	wantNoPrint(t, what, []any{1, v, 2}, api.ErrValue)
	wantNoPrint(t, what, []any{v, 2}, api.ErrValue)
	wantNoPrint(t, what, []any{1, []any{2, v}}, api.ErrValue)
	wantNoPrint(t, what, map[string]any{"a": 1, "b": v, "c": 2}, api.ErrValue)
	wantNoPrint(t, what, []any{strings.Repeat("a", api.MaxJSON), v}, api.ErrValue) // named ahead of ErrLong
}

func TestPrintOthers(t *testing.T) { // P16.2
	for what, v := range others() {
		wantNone(t, what, v)
	}
	for what, v := range almost() {
		wantNone(t, what, v)
		if name, is := v.(string); is {
			wantNone(t, what+" in a name", map[string]any{name: 1})
			wantNone(t, what+" in a name", map[string]any{"a": 1, name: 1, "b": 2})
		}
	}
}

func TestPrintDepth(t *testing.T) { // P16.2
	for objects := range 17 {
		arrays := 16 - objects
		wantPrint(t, nest(1, arrays, objects), strings.Repeat(`{"a":`, objects)+strings.Repeat("[", arrays)+"1"+strings.Repeat("]", arrays)+strings.Repeat("}", objects))
		wantNoPrint(t, "depth 17", nest(1, arrays+1, objects), api.ErrValue)
		wantNoPrint(t, "depth 17", nest(1, arrays, objects+1), api.ErrValue)
		wantNoPrint(t, "depth 17", nest([]any{}, arrays, objects), api.ErrValue)
		wantNoPrint(t, "depth 17", nest([]any(nil), arrays, objects), api.ErrValue)
		wantNoPrint(t, "depth 17", nest(map[string]any{}, arrays, objects), api.ErrValue)
		wantNoPrint(t, "depth 17", nest(map[string]any(nil), arrays, objects), api.ErrValue)
	}
	wantPrint(t, nest([]any{}, 15, 0), strings.Repeat("[", 16)+strings.Repeat("]", 16))
	deep := nest(1, 15, 0)
	wantPrint(t, []any{deep, deep}, "["+strings.Repeat("[", 15)+"1"+strings.Repeat("]", 15)+","+strings.Repeat("[", 15)+"1"+strings.Repeat("]", 15)+"]")
	wantNoPrint(t, "far too deep", nest(1, 60000, 0), api.ErrValue)
	wantNoPrint(t, "far too deep", nest(1, 0, 60000), api.ErrValue)
	wantNoPrint(t, "one that is too deep", []any{1, nest(1, 16, 0)}, api.ErrValue)
}

func TestPrintLengths(t *testing.T) { // P16.2
	a := strings.Repeat("a", api.MaxJSON)
	for _, x := range []struct {
		what      string
		fits, not any
	}{
		{"a string", a[:api.MaxJSON-2], a[:api.MaxJSON-1]},
		{"runes", strings.Repeat("é", api.MaxJSON/2-1), strings.Repeat("é", api.MaxJSON/2)},
		{"escapes", strings.Repeat("\n", api.MaxJSON/2-1), strings.Repeat("\n", api.MaxJSON/2-1) + "a"},
		{"long escapes", strings.Repeat("\x01", 10922) + "aa", strings.Repeat("\x01", 10923)},
		{"an array", []any{a[:api.MaxJSON-4]}, []any{a[:api.MaxJSON-3]}},
		{"an array's last bracket", []any{a[:api.MaxJSON-6], 1}, []any{a[:api.MaxJSON-6], 10}},
		{"a name", map[string]any{a[:api.MaxJSON-6]: 1}, map[string]any{a[:api.MaxJSON-6]: 10}},
		{"a field", map[string]any{"a": a[:api.MaxJSON-8]}, map[string]any{"a": a[:api.MaxJSON-7]}},
		{"objects", nest(a[:api.MaxJSON-16*6-2], 0, 16), nest(a[:api.MaxJSON-16*6-1], 0, 16)},
	} {
		s, e := json.Print(x.fits)
		want(t, x.what, e, api.OK)
		want(t, x.what, len(s), api.MaxJSON)
		back, e, _ := json.Parse(s)
		want(t, x.what, e, api.OK)
		want(t, x.what, json.Same(back, x.fits), true)
		wantNoPrint(t, x.what, x.not, api.ErrLong)
		want(t, x.what, json.Same(x.not, x.not), true) // P16.3: it is a value all the same
	}
	many := make([]any, 1<<20)
	wantNoPrint(t, "many", many, api.ErrLong)
	fields := map[string]any{}
	for i := range 30000 {
		fields[string(rune(0x4E00+i%20000))+string(rune(0x61+i/20000))] = many[:3]
	}
	wantNoPrint(t, "many", []any{fields, fields}, api.ErrLong)
}

func TestIndent(t *testing.T) { // P16.6
	v := map[string]any{"b": "é\n", "a": []any{1, []any{}, map[string]any{}, []any{nil, true}, []any(nil)}, "c": map[string]any{"d": map[string]any{"": -2}}}
	should := "{\n  \"a\": [\n    1,\n    [],\n    {},\n    [\n      null,\n      true\n    ],\n    []\n  ],\n  \"b\": \"é\\n\",\n  \"c\": {\n    \"d\": {\n      \"\": -2\n    }\n  }\n}"
	s, e := json.Indent(v, 2)
	want(t, "by 2", s, should)
	want(t, "by 2", e, api.OK)
	s, e = json.Indent(v, 0)
	want(t, "by 0", s, "{\n\"a\": [\n1,\n[],\n{},\n[\nnull,\ntrue\n],\n[]\n],\n\"b\": \"é\\n\",\n\"c\": {\n\"d\": {\n\"\": -2\n}\n}\n}")
	want(t, "by 0", e, api.OK)
	for _, x := range []struct {
		v any
		s string
	}{{nil, "null"}, {1, "1"}, {"a", `"a"`}, {true, "true"}, {[]any{}, "[]"}, {[]any(nil), "[]"}, {map[string]any{}, "{}"}, {map[string]any(nil), "{}"}, {[]any{1}, "[\n        1\n]"}, {map[string]any{"a": []any{}}, "{\n        \"a\": []\n}"}, {[]any{[]any{1, 2}}, "[\n        [\n                1,\n                2\n        ]\n]"}} {
		s, e := json.Indent(x.v, 8)
		want(t, "by 8", s, x.s)
		want(t, "by 8", e, api.OK)
	}
	for _, by := range []int{-1, 9, -2, 10, math.MinInt, math.MaxInt} {
		for _, v := range []any{v, nil, 1.5, strings.Repeat("a", api.MaxJSON)} { // named ahead of the others
			s, e := json.Indent(v, by)
			want(t, "by another one", s, "")
			want(t, "by another one", e, api.ErrArg)
		}
	}
}

func TestIndentLengths(t *testing.T) { // P16.6
	a := strings.Repeat("a", api.MaxJSON)
	for by := range 9 {
		for _, x := range []struct {
			v    func(n int) any
			more int
		}{
			{func(n int) any { return a[:n] }, 2},
			{func(n int) any { return []any{a[:n]} }, 6 + by},
			{func(n int) any { return map[string]any{"a": a[:n]} }, 11 + by},
			{func(n int) any { return []any{[]any{a[:n]}, 1} }, 6 + 2*by + 4 + by + 1 + by + 2 + by},
		} {
			s, e := json.Indent(x.v(api.MaxJSON-x.more), by)
			want(t, "it fits", e, api.OK)
			want(t, "it fits", len(s), api.MaxJSON)
			s, e = json.Indent(x.v(api.MaxJSON-x.more+1), by)
			want(t, "too long", e, api.ErrLong)
			want(t, "too long", s, "")
		}
	}
	s, e := json.Indent([]any{a, 1.5}, 2)
	want(t, "no value, and too long", s, "")
	want(t, "no value, and too long", e, api.ErrValue)
}

func TestIndentPlays(t *testing.T) { // P16.6, P16.5: as the library lays the printed text out
	r := rand.New(rand.NewSource(166))
	for range 3000 {
		v := randomValue(r, r.Intn(5))
		printed, _ := json.Print(v)
		by := r.Intn(9)
		var should bytes.Buffer
		if err := stdjson.Indent(&should, []byte(printed), "", strings.Repeat(" ", by)); err != nil {
			t.Fatal(err)
		}
		s, e := json.Indent(v, by)
		want(t, printed, s, should.String())
		want(t, printed, e, api.OK)
		wantValue(t, s, v)
	}
}
