package json_test

import (
	"math"
	"math/rand"
	"reflect"
	"slices"
	"strings"
	"testing"

	"atrium/api"
	"atrium/json"
)

// wantKind is all that P16.3 says of what v is.
func wantKind(t *testing.T, what string, v any, kind int) {
	t.Helper()
	want(t, what, json.Kind(v), kind)
	b, isBool := json.Bool(v)
	n, isNumber := json.Number(v)
	s, isText := json.Text(v)
	l, isArray := json.Items(v)
	want(t, what, isBool, kind == api.JSONBool)
	want(t, what, isNumber, kind == api.JSONNumber)
	want(t, what, isText, kind == api.JSONText)
	want(t, what, isArray, kind == api.JSONArray)
	if isBool {
		want(t, what, any(b), v)
	} else {
		want(t, what, b, false)
	}
	if isNumber {
		want(t, what, any(n), v)
	} else {
		want(t, what, n, 0)
	}
	if isText {
		want(t, what, any(s), v)
	} else {
		want(t, what, s, "")
	}
	if !isArray {
		want(t, what, len(l), 0)
	} else if len(l) > 0 {
		wantPart(t, what, any(l), v)
	}
	if kind != api.JSONObject {
		want(t, what, len(json.Names(v)), 0)
		for _, name := range []string{"", "a", "0"} {
			x, has := json.Field(v, name)
			want(t, what, x, nil)
			want(t, what, has, false)
		}
	}
}

func TestKind(t *testing.T) { // P16.3
	want(t, "null", json.Kind(nil), 1)
	want(t, "bool", json.Kind(true), 2)
	want(t, "number", json.Kind(1), 3)
	want(t, "text", json.Kind("a"), 4)
	want(t, "array", json.Kind([]any{}), 5)
	want(t, "object", json.Kind(map[string]any{}), 6)
	wantKind(t, "null", nil, api.JSONNull)
	for _, b := range []bool{true, false} {
		wantKind(t, "bool", b, api.JSONBool)
	}
	for _, n := range []int{0, 1, -1, math.MaxInt, -math.MaxInt, math.MinInt} {
		wantKind(t, "number", n, api.JSONNumber)
	}
	for _, s := range []string{"", "a", "é", "\xff", "a\xc3", strings.Repeat("a", 1<<17)} {
		wantKind(t, "text", s, api.JSONText)
	}
	for _, l := range [][]any{nil, {}, {nil}, {1, "a"}, {[]any{1}, map[string]any{"a": 1}}, {1.5, "\xff", math.MinInt}} {
		wantKind(t, "array", l, api.JSONArray)
	}
	for _, m := range []map[string]any{nil, {}, {"a": 1}, {"": nil}, {"\xff": 1.5}} {
		wantKind(t, "object", m, api.JSONObject)
	}
	wantKind(t, "too deep an array", nest(1, 20, 0), api.JSONArray)
	wantKind(t, "too deep an object", nest(1, 0, 20), api.JSONObject)
	for what, v := range others() {
		wantKind(t, what, v, 0)
	}
}

func TestField(t *testing.T) { // P16.3
	m := map[string]any{"a": 1, "b": nil, "": "x", "é": []any{1}, "\xff": 1.5, "A": true}
	for name, should := range m {
		x, has := json.Field(m, name)
		wantPart(t, name, x, should)
		want(t, name, has, true)
	}
	for _, name := range []string{"c", "aa", "B", "\x00", "e", "\xfe", " a", "/a"} {
		x, has := json.Field(m, name)
		want(t, name, x, nil)
		want(t, name, has, false)
	}
	for _, v := range []any{map[string]any(nil), map[string]any{}, []any{1}, "a", nil, ownObject{"a": 1}, map[string]int{"a": 1}, &m} {
		x, has := json.Field(v, "a")
		want(t, "no such field", x, nil)
		want(t, "no such field", has, false)
	}
}

func TestNames(t *testing.T) { // P16.3
	wantList(t, "rising", json.Names(map[string]any{"b": 1, "a": nil, "B": 3, "": 4, "aa": 1.5, "é": 6, "\xff": 7, "10": 8, "2": 9, "\x00": 10}), []string{"", "\x00", "10", "2", "B", "a", "aa", "b", "é", "\xff"})
	for _, v := range []any{map[string]any{}, map[string]any(nil), nil, []any{"a"}, "a", ownObject{"a": 1}, map[string]string{"a": "b"}} {
		want(t, "nothing", len(json.Names(v)), 0)
	}
	m := map[string]any{"a": 1, "b": 2}
	l := json.Names(m)
	l[0] = "x"
	wantList(t, "another answer", json.Names(m), []string{"a", "b"})
}

// spoil changes all lists and objects of what was told, and what lies behind the lists.
func spoil(v any) {
	switch x := v.(type) {
	case []any:
		for i := range x {
			spoil(x[i])
			x[i] = "spoilt"
		}
		if cap(x) > len(x) {
			x[:cap(x)][len(x)] = "spoilt"
		}
	case map[string]any:
		for name, part := range x {
			spoil(part)
			x[name] = "spoilt"
		}
		x["spoilt"] = true
	}
}

// again is a value in memory of its own, told by the text of it.
func again(t *testing.T, v any) any {
	t.Helper()
	s, e := json.Print(v)
	want(t, "Print", e, api.OK)
	x, e, _ := json.Parse(s)
	want(t, "Parse", e, api.OK)
	return x
}

func TestAnswersAreNew(t *testing.T) { // P16.3, R3
	r := rand.New(rand.NewSource(163))
	for range 2000 {
		v := randomValue(r, 4)
		was := again(t, v)
		if l, is := json.Items(v); is {
			spoil(l)
		}
		for _, name := range json.Names(v) {
			x, _ := json.Field(v, name)
			spoil(x)
		}
		for path := range places(v) {
			x, _ := json.Pointer(v, path)
			spoil(x)
		}
		wantPart(t, "as it was", v, was)
	}
	inner := []any{1}
	v := []any{inner, inner, map[string]any{"a": inner}}
	l, _ := json.Items(v)
	l[0].([]any)[0] = 2 // no two lists of an answer are one
	wantPart(t, "the others", l[1:], []any{[]any{1}, map[string]any{"a": []any{1}}})
	room := append(make([]any, 0, 8), 1, 2)
	l, _ = json.Items(room)
	_ = append(l, 3)
	wantPart(t, "behind its end", room[:3], []any{1, 2, nil})
	odd := []any{[]any{1.5}, map[string]any{"\xff": []any{math.MinInt}}} // no value, but new all the same
	l, _ = json.Items(odd)
	spoil(l)
	wantPart(t, "as it was", odd, []any{[]any{1.5}, map[string]any{"\xff": []any{math.MinInt}}})
	a, _, _ := json.Parse("[[1],[1]]")
	b, _, _ := json.Parse("[[1],[1]]")
	spoil(a)
	wantPart(t, "another answer", b, []any{[]any{1}, []any{1}})
}

func TestWhatLeadsBack(t *testing.T) { // R1: lists and objects that have themselves in them
	l := []any{1, nil, nil}
	l[1], l[2] = l, l
	m := map[string]any{"a": 1}
	m["m"], m["l"] = m, []any{m, m}
	for _, v := range []any{l, m} {
		wantNoPrint(t, "what leads back", v, api.ErrValue)
		_, e := json.Indent(v, 1)
		want(t, "what leads back", e, api.ErrValue)
		want(t, "what leads back", json.Same(v, v), false)
		want(t, "what leads back", json.Same(v, nil), false)
		want(t, "what leads back", json.Same(nil, v), false)
	}
	want(t, "an array", json.Kind(l), api.JSONArray)
	want(t, "an object", json.Kind(m), api.JSONObject)
	items, is := json.Items(l)
	want(t, "its items", is, true)
	want(t, "its items", len(items), 3)
	items[0] = 2
	want(t, "a new list", l[0], any(1))
	x, has := json.Field(m, "m")
	want(t, "its field", has, true)
	want(t, "its field", json.Kind(x), api.JSONObject)
	wantList(t, "its names", json.Names(m), []string{"a", "l", "m"})
	x, has = json.Pointer(m, "/m/l/1/m/a")
	want(t, "where it leads", x, any(1))
	want(t, "where it leads", has, true)
	x, has = json.Pointer(l, "/1/2/1/2")
	want(t, "where it leads", json.Kind(x), api.JSONArray)
	want(t, "where it leads", has, true)
	deep := nest([]any{1}, 30000, 0)
	x, has = json.Pointer(deep, strings.Repeat("/0", 30000))
	wantPart(t, "far down", x, []any{1})
	want(t, "far down", has, true)
	items, is = json.Items(deep)
	want(t, "a deep list", len(items), 1)
	want(t, "a deep list", is, true)
}

// down is the last list or object of those that stand in one another.
func down(v any) any {
	for {
		inner := v
		switch x := v.(type) {
		case []any:
			inner = x[0]
		case map[string]any:
			inner = x["a"]
		}
		if json.Kind(inner) != api.JSONArray && json.Kind(inner) != api.JSONObject {
			return v
		}
		v = inner
	}
}

func TestDeepAnswersAreNew(t *testing.T) { // R3: as many in one another as are promised of
	for _, v := range []any{nest(1, 1<<16, 0), nest(1, 0, 1<<16), nest(1, 1<<15, 1<<15)} {
		x, ok := json.Pointer(v, "")
		want(t, "the whole", ok, true)
		spoil(down(x))
		x, ok = json.Field(map[string]any{"a": v}, "a")
		want(t, "a field", ok, true)
		spoil(down(x))
		l, ok := json.Items([]any{v})
		want(t, "an item", ok, true)
		spoil(down(l))
		switch x := down(v).(type) {
		case []any:
			wantPart(t, "as it was", x, []any{1})
		case map[string]any:
			wantPart(t, "as it was", x, map[string]any{"a": 1})
		}
	}
	m := map[string]any{}
	m["a"] = m
	x, has := json.Field(m, "a")
	want(t, "an object that has itself alone", json.Kind(x), api.JSONObject)
	want(t, "an object that has itself alone", has, true)
	l := []any{nil}
	l[0] = l
	x, has = json.Pointer(l, "/0")
	want(t, "a list that has itself alone", json.Kind(x), api.JSONArray)
	want(t, "a list that has itself alone", has, true)
}

func TestSame(t *testing.T) { // P16.3
	all := []any{
		nil, true, false, 0, 1, -1, math.MaxInt, -math.MaxInt, "", "0", "a", "A", "null", "true", "é", "e\u0301",
		[]any{}, []any{nil}, []any{[]any{}}, []any{1}, []any{1, 2}, []any{2, 1}, []any{1, 2, 3}, []any{"1"}, []any{map[string]any{}}, []any{false},
		map[string]any{}, map[string]any{"a": 1}, map[string]any{"a": 2}, map[string]any{"b": 1}, map[string]any{"a": nil}, map[string]any{"": 1}, map[string]any{"b": nil}, map[string]any{"a": 1, "b": 1}, map[string]any{"a": []any{}}, map[string]any{"a": map[string]any{}},
		nest(1, 16, 0), nest(2, 16, 0), nest(1, 0, 16), nest(2, 0, 16), nest(1, 15, 1), nest(1, 15, 0),
	}
	for i, a := range all {
		for j, b := range all {
			want(t, "two of them", json.Same(a, b), i == j)
		}
	}
	want(t, "no list", json.Same([]any(nil), []any{}), true)
	want(t, "no map", json.Same(map[string]any{}, map[string]any(nil)), true)
	want(t, "no list and no map", json.Same([]any(nil), map[string]any(nil)), false)
	want(t, "no list and null", json.Same([]any(nil), nil), false)
	want(t, "within", json.Same([]any{[]any(nil), map[string]any{"a": map[string]any(nil)}}, []any{[]any{}, map[string]any{"a": map[string]any{}}}), true)
	none := map[string]any{"depth 17": nest(1, 17, 0), "objects of depth 17": nest(1, 0, 17), "a wrong name": map[string]any{"\xff": 1}}
	for _, l := range []map[string]any{others(), almost()} {
		for what, v := range l {
			none[what] = v
		}
	}
	for what, v := range none {
		want(t, what, json.Same(v, v), false)
		want(t, what, json.Same([]any{v}, []any{v}), false)
		for _, a := range all {
			want(t, what, json.Same(a, v), false)
			want(t, what, json.Same(v, a), false)
		}
	}
}

// turned are values that differ from v in one place.
func turned(v any) []any {
	switch x := v.(type) {
	case nil:
		return []any{false, 0, "", []any{}, map[string]any{}}
	case bool:
		return []any{!x, nil}
	case int:
		if x > 0 {
			return []any{x - 1, nil}
		}
		return []any{x + 1, nil}
	case string:
		return []any{x + "a", "\x00" + x, nil}
	case []any:
		l := []any{append(slices.Clone(x), nil), map[string]any{}}
		for i, item := range x {
			l = append(l, slices.Delete(slices.Clone(x), i, i+1))
			for _, other := range turned(item) {
				y := slices.Clone(x)
				y[i] = other
				l = append(l, y)
			}
		}
		return l
	}
	m := v.(map[string]any)
	l := []any{[]any{}}
	for name, part := range m {
		for _, other := range append(turned(part), "gone", "another name") {
			y := map[string]any{}
			for n, p := range m {
				y[n] = p
			}
			y[name] = other
			if other == any("gone") {
				delete(y, name)
			}
			if other == any("another name") {
				delete(y, name)
				y["another name"] = part
			}
			l = append(l, y)
		}
	}
	return l
}

func TestSamePlays(t *testing.T) { // P16.3, P16.4
	r := rand.New(rand.NewSource(1630))
	for range 1500 {
		v := randomValue(r, 3)
		s, _ := json.Print(v)
		want(t, s, json.Same(v, again(t, v)), true)
		for _, other := range turned(v) {
			if reflect.DeepEqual(v, other) {
				continue
			}
			p, e := json.Print(other)
			want(t, p, e == api.OK && p != s, true)
			if json.Same(v, other) || json.Same(other, v) {
				t.Errorf("the same: %s and %s", s, p)
			}
		}
		other := randomValue(r, 2)
		p, _ := json.Print(other)
		want(t, s+" "+p, json.Same(v, other), s == p)
	}
}
