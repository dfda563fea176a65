package model_test

import (
	"fmt"
	"math"
	"reflect"
	"strings"
	"testing"

	"atrium/api"
	"atrium/model"
)

func TestMutates(t *testing.T) { // P23.2: each kind with each status
	for kind := -1; kind <= 11; kind++ {
		for _, status := range []int{math.MinInt, -1, 0, 1, 100, 199, 200, 201, 202, 203, 204, 205, 299, 300, 400, 404, 429, 500, 507, math.MaxInt} {
			for _, revoked := range []int{math.MinInt, -1, 0, 1, 2, 256, math.MaxInt} {
				should := status == 201 || status == 204 || status == 200 && (kind == 3 || (kind == 5 || kind == 6) && revoked > 0)
				c := api.Call{Kind: kind}
				a := api.Answer{Status: status, Revoked: revoked}
				want(t, fmt.Sprint("Mutates of ", kind, " told ", status, " and ", revoked), model.Mutates(c, a), should)
				c = rightCall(kind, 3) // other fields do not count
				a.Word, a.Token, a.User, a.Data, a.Expires, a.Tokens, a.Entries, a.Head, a.Live, a.Users, a.Total, a.Next = "w", "t", "u", "d", 9, []string{"t"}, []api.Entry{{Number: 1}}, "h", 1, 1, 1, 1
				want(t, fmt.Sprint("Mutates of ", kind, " told ", status, " and ", revoked), model.Mutates(c, a), should)
			}
		}
	}
}

func TestText(t *testing.T) { // P23.2: written out, and numbers at the ends of their ranges
	for _, x := range []struct {
		entry  api.Entry
		should string
	}{
		{api.Entry{}, "\x00\x00\x00\x00"},
		{api.Entry{Number: 1, Kind: 2, Tick: 3, Subject: "ab"}, "\x01\x02\x03\x02ab"},
		{api.Entry{Number: 127, Kind: 128, Tick: 300}, "\x7F\x80\x01\xAC\x02\x00"},
		{api.Entry{Number: math.MaxInt, Kind: math.MaxInt, Tick: math.MaxUint64, Subject: "\x00"}, strings.Repeat(strings.Repeat("\xFF", 8)+"\x7F", 2) + strings.Repeat("\xFF", 9) + "\x01" + "\x01\x00"},
		{api.Entry{Number: -1, Kind: math.MinInt, Tick: 0, Subject: "\xFF"}, strings.Repeat("\xFF", 9) + "\x01" + strings.Repeat("\x80", 9) + "\x01" + "\x00" + "\x01\xFF"},
		{api.Entry{Number: 1 << 31, Kind: 9, Tick: 1 << 63, Subject: strings.Repeat("s", 128)}, "\x80\x80\x80\x80\x08\x09" + strings.Repeat("\x80", 9) + "\x01" + "\x80\x01" + strings.Repeat("s", 128)},
		{api.Entry{Subject: strings.Repeat("s", 1<<20)}, "\x00\x00\x00\x80\x80\x40" + strings.Repeat("s", 1<<20)},
	} {
		want(t, fmt.Sprintf("Text of %.100s", fmt.Sprintf("%+v", x.entry)), model.Text(x.entry), x.should)
	}
	ends := []int{math.MinInt, -1 << 32, -1, 0, 1, 127, 128, 1<<14 - 1, 1 << 14, 1<<31 - 1, 1 << 32, math.MaxInt}
	seen := map[string]api.Entry{}
	for _, number := range ends {
		for _, kind := range ends {
			for _, tick := range ends {
				for _, subject := range []string{"", "\x00", "a", "\x01a"} {
					e := api.Entry{Number: number, Kind: kind, Tick: uint64(tick), Subject: subject}
					s := model.Text(e)
					want(t, "Text", s, textOf(e))
					if other, is := seen[s]; is {
						t.Errorf("one text of %+v and %+v", e, other)
					}
					seen[s] = e
				}
			}
		}
	}
}

// full is an answer in which no field is zero.
func full() api.Answer {
	return api.Answer{
		Status: 200, Word: "w", Token: "t", User: "u", Data: "d", Expires: 1, Revoked: 2, Tokens: []string{"a", "b"},
		Entries: []api.Entry{{Number: 1, Kind: 2, Tick: 3, Subject: "s"}, {Number: 2}}, Head: "h", Live: 3, Users: 4, Total: 5, Next: 6,
	}
}

func wantSame(t *testing.T, what string, a, b api.Answer, should bool) {
	t.Helper()
	want(t, what, model.Same(a, b), should)
	want(t, what+", turned round", model.Same(b, a), should)
}

func TestSame(t *testing.T) { // P23.2: answers that differ in one field each
	wantSame(t, "full ones", full(), full(), true)
	wantSame(t, "zero ones", api.Answer{}, api.Answer{}, true)
	wantSame(t, "a full and a zero one", full(), api.Answer{}, false)
	fields := reflect.TypeFor[api.Answer]()
	for i := range fields.NumField() { // one field left out, or alone
		a, b := full(), api.Answer{}
		reflect.ValueOf(&a).Elem().Field(i).SetZero()
		reflect.ValueOf(&b).Elem().Field(i).Set(reflect.ValueOf(full()).Field(i))
		wantSame(t, fields.Field(i).Name+" left out", a, full(), false)
		wantSame(t, fields.Field(i).Name+" alone", b, api.Answer{}, false)
	}
	for n, turn := range []func(*api.Answer){
		func(a *api.Answer) { a.Status = 201 },
		func(a *api.Answer) { a.Word = "W" },
		func(a *api.Answer) { a.Token = "t\x00" },
		func(a *api.Answer) { a.User = "v" },
		func(a *api.Answer) { a.Data = "dd" },
		func(a *api.Answer) { a.Expires += 1 << 32 },
		func(a *api.Answer) { a.Expires += 1 << 63 },
		func(a *api.Answer) { a.Revoked = -2 },
		func(a *api.Answer) { a.Revoked += 1 << 32 },
		func(a *api.Answer) { a.Tokens = []string{"b", "a"} },
		func(a *api.Answer) { a.Tokens = []string{"a"} },
		func(a *api.Answer) { a.Tokens = []string{"a", "b", ""} },
		func(a *api.Answer) { a.Tokens = []string{"ab", ""} },
		func(a *api.Answer) { a.Entries[0].Number++ },
		func(a *api.Answer) { a.Entries[0].Kind++ },
		func(a *api.Answer) { a.Entries[0].Tick++ },
		func(a *api.Answer) { a.Entries[0].Subject = "S" },
		func(a *api.Answer) { a.Entries[1].Subject = "s" },
		func(a *api.Answer) { a.Entries = a.Entries[:1] },
		func(a *api.Answer) { a.Entries = append(a.Entries, api.Entry{}) },
		func(a *api.Answer) { a.Entries[0], a.Entries[1] = a.Entries[1], a.Entries[0] },
		func(a *api.Answer) { a.Head = "H" },
		func(a *api.Answer) { a.Live++ },
		func(a *api.Answer) { a.Users++ },
		func(a *api.Answer) { a.Total++ },
		func(a *api.Answer) { a.Next++ },
		func(a *api.Answer) { a.Live, a.Users = a.Users, a.Live },
	} {
		a := full()
		turn(&a)
		wantSame(t, fmt.Sprint("turn ", n), a, full(), false)
		wantSame(t, fmt.Sprint("turn ", n, " of both"), a, a, true)
	}
	a, b := full(), full() // nil and the empty list are the same
	a.Tokens, a.Entries = nil, nil
	b.Tokens, b.Entries = []string{}, []api.Entry{}
	wantSame(t, "empty lists", a, b, true)
	a, b = full(), full() // room behind a list's end does not count
	a.Tokens = append(make([]string, 0, 9), a.Tokens...)
	wantSame(t, "spare room", a, b, true)
}

func TestAnswersAreSame(t *testing.T) { // P23.2: of what worlds tell
	p, q := fresh(t, 2), fresh(t, 2)
	var l []api.Answer
	for kind := range 12 {
		a, b := p.do(rightCall(kind, 0), 10), q.do(rightCall(kind, 0), 10)
		wantSame(t, fmt.Sprint("kind ", kind), a, b, true)
		l = append(l, a)
	}
	for i, a := range l {
		for j, b := range l {
			wantSame(t, fmt.Sprint(i, " and ", j), a, b, reflect.DeepEqual(plain(a), plain(b)))
		}
	}
}
