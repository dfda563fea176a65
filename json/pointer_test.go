package json_test

import (
	"math/rand"
	"regexp"
	"strconv"
	"strings"
	"testing"

	"atrium/json"
)

// wantLeads is where a pointer leads.
func wantLeads(t *testing.T, v any, path string, should any) {
	t.Helper()
	x, ok := json.Pointer(v, path)
	wantPart(t, path, x, should)
	want(t, path, ok, true)
}

// wantNowhere is that it leads nowhere, or is none.
func wantNowhere(t *testing.T, v any, path string) {
	t.Helper()
	x, ok := json.Pointer(v, path)
	wantPart(t, path, x, nil)
	want(t, path, ok, false)
}

func TestPointerOfRFC(t *testing.T) { // P16.6: the examples of RFC 6901
	v, _, _ := json.Parse(`{"foo":["bar","baz"],"":0,"a/b":1,"c%d":2,"e^f":3,"g|h":4,"i\\j":5,"k\"l":6," ":7,"m~n":8}`)
	wantLeads(t, v, "", v)
	wantLeads(t, v, "/foo", []any{"bar", "baz"})
	for i, path := range []string{"/", "/a~1b", "/c%d", "/e^f", "/g|h", `/i\j`, `/k"l`, "/ ", "/m~0n"} {
		wantLeads(t, v, path, i)
	}
	wantLeads(t, v, "/foo/0", "bar")
	wantLeads(t, v, "/foo/1", "baz")
	for _, path := range []string{"/foo/2", "/foo/-", "/foo/00", "/foo/01", "/foo/", "/foo/a", "/foo/-1", "/foo/+1", "/foo/1.0", "/foo/ 1", "/foo/0/", "/foo/0/0", "/a/b", "/a~b", "/m~n", "/m~2n", "/m~", "/m~~0n", "foo", "foo/0", "#/foo", " ", "a", "~0", "~", "0", "//", "/foo//0", "/Foo", "/foo/1/"} {
		wantNowhere(t, v, path)
	}
}

func TestPointerSteps(t *testing.T) { // P16.6
	v := map[string]any{"~": 1, "/": 2, "~1": 3, "~0": 4, "~01": 5, "/~": 6, "": map[string]any{"": map[string]any{"": 7}}, "0": "zero", "01": "more", "-": "dash", "é": 8, "a": []any{[]any{10, 11}, map[string]any{"0": 12, "x": nil}}}
	for path, should := range map[string]any{"/~0": 1, "/~1": 2, "/~01": 3, "/~00": 4, "/~001": 5, "/~1~0": 6, "///": 7, "//": map[string]any{"": 7}, "/": map[string]any{"": map[string]any{"": 7}}, "/0": "zero", "/01": "more", "/-": "dash", "/é": 8, "/a/0/0": 10, "/a/0/1": 11, "/a/1/0": 12, "/a/1/x": nil, "/a/0": []any{10, 11}} {
		wantLeads(t, v, path, should)
	}
	for _, path := range []string{"/~", "/~2", "/~a", "/~~", "/~/", "/~ 0", "/a~", "/~0~", "/~é", "/~\xff", "////", "/a/~", "/a/~00", "/a/2", "/a/0/2", "/a/1/1", "/a/1/x/0", "/a/1/x/", "/é/", "/\xff", "/\xc3", "/a/0\x00", "/a/٠"} {
		wantNowhere(t, v, path)
	}
	wantNowhere(t, map[string]any{"a": 1}, "/a/~") // a step that is none, behind one that leads nowhere
	wantNowhere(t, map[string]any{"a": 1}, "/b/~")
}

func TestPointerItems(t *testing.T) { // P16.6: numbers of items
	var l []any
	for i := range 120 {
		l = append(l, i)
	}
	for size := range 121 {
		for n := range 125 {
			path := "/" + strconv.Itoa(n)
			if n < size {
				wantLeads(t, l[:size], path, n)
			} else {
				wantNowhere(t, l[:size], path)
			}
			wantNowhere(t, l[:size], "/0"+strconv.Itoa(n))
		}
	}
	for _, step := range []string{"", "-", "-0", "-1", "+0", "00", "000", "0 ", " 0", "0x0", "1e1", "1.0", "999999999999999999", "1000000000000000000", "9223372036854775807", "9223372036854775808", "18446744073709551616", "18446744073709551617", strings.Repeat("1", 1000), strings.Repeat("0", 1000), "a", "~0", "~1", "０"} {
		wantNowhere(t, l, "/"+step)
	}
	wantNowhere(t, []any(nil), "/0")
	wantNowhere(t, map[string]any(nil), "/0")
	wantNowhere(t, map[string]any(nil), "/")
}

func TestPointerOfOthers(t *testing.T) { // P16.6: what is neither an array nor an object leads nowhere
	for _, v := range []any{nil, true, 1, "abc", 1.5, []string{"a"}, map[string]string{"0": "a"}, ownList{1}, ownObject{"0": 1}} {
		wantLeads(t, v, "", v)
		for _, path := range []string{"/", "/0", "/a", "0", "//"} {
			wantNowhere(t, v, path)
		}
	}
	wantLeads(t, []any{1.5, map[string]any{"\xff": uint8(1)}}, "/1/\xff", uint8(1))
	wantLeads(t, []any{nil}, "/0", nil)
}

// places are all parts of a value, by the pointers that lead there.
func places(v any) map[string]any {
	all := map[string]any{"": v}
	step := func(name string) string {
		return "/" + strings.NewReplacer("~", "~0", "/", "~1").Replace(name)
	}
	switch x := v.(type) {
	case []any:
		for i, item := range x {
			for path, part := range places(item) {
				all["/"+strconv.Itoa(i)+path] = part
			}
		}
	case map[string]any:
		for name, field := range x {
			for path, part := range places(field) {
				all[step(name)+path] = part
			}
		}
	}
	return all
}

var (
	pointerForm = regexp.MustCompile(`^(/([^~/]|~[01])*)*$`)
	itemForm    = regexp.MustCompile(`^(0|[1-9][0-9]*)$`)
)

// leads is where a pointer leads, as RFC 6901 reads steps: first each ~1, then each ~0.
func leads(v any, path string) (any, bool) {
	if !pointerForm.MatchString(path) {
		return nil, false
	}
	for _, step := range strings.Split(path, "/")[1:] {
		step = strings.ReplaceAll(strings.ReplaceAll(step, "~1", "/"), "~0", "~")
		switch x := v.(type) {
		case map[string]any:
			field, has := x[step]
			if !has {
				return nil, false
			}
			v = field
		case []any:
			n, err := strconv.Atoi(step)
			if err != nil || !itemForm.MatchString(step) || n >= len(x) {
				return nil, false
			}
			v = x[n]
		default:
			return nil, false
		}
	}
	return v, true
}

func TestPointerPlays(t *testing.T) { // P16.6
	r := rand.New(rand.NewSource(1660))
	for range 3000 {
		v := randomValue(r, 4)
		for path, part := range places(v) {
			wantLeads(t, v, path, part)
			at := r.Intn(len(path) + 1)
			to := min(len(path), at+r.Intn(2))
			other := path[:at] + []string{"", "/", "~", "0", "1", "~0", "~1", "a"}[r.Intn(8)] + path[to:]
			should, ok := leads(v, other)
			if ok {
				wantLeads(t, v, other, should)
			} else {
				wantNowhere(t, v, other)
			}
		}
	}
}
