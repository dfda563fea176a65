package lin_test

import (
	"math"
	"slices"
	"testing"

	"atrium/api"
	"atrium/lin"
)

// ordered is a term of 9 steps in which these were asked. All of them are without calls.
func ordered(l ...api.Asked) api.Served {
	return api.Served{Lines: lines(), Asked: l, Steps: 9}
}

// steps is a request, by its connection, its number, and its steps.
func steps(conn, nth, first, point, done int) api.Asked {
	return api.Asked{Conn: conn, Nth: nth, First: first, Point: point, Done: done}
}

func unsure(a api.Asked) api.Asked {
	a.Fate = api.FateUnsure
	return a
}

func wantOrder(t *testing.T, what string, terms int, should found, l ...api.Served) {
	t.Helper()
	got := look(t, what, config(9), make([]api.Term, terms), api.Told{Terms: l})
	want(t, what, got.order, should)
	if !should.is { // P29.2, P29.3: what Order tells
		want(t, what+": Explain", got.explain, should)
		want(t, what+": Sent", got.sent, should)
	}
}

func TestHowManyTerms(t *testing.T) { // P29.1: as many as there were; 0, if not
	s := ordered()
	wrong := ordered(steps(0, 1, 0, 1, 2))
	wantOrder(t, "no terms", 0, fine)
	wantOrder(t, "one", 1, fine, s)
	wantOrder(t, "three", 3, fine, s, s, s)
	wantOrder(t, "none of one", 1, bad0)
	wantOrder(t, "one of none", 0, bad0, s)
	wantOrder(t, "one too few", 3, bad0, s, s)
	wantOrder(t, "one too many", 2, bad0, s, s, s)
	wantOrder(t, "one too many, the last one not in order", 2, bad0, s, s, wrong)
	wantOrder(t, "one too few, the last one not in order", 3, bad0, s, wrong)
	wantOrder(t, "more than a play may have", 20, fine, slices.Repeat([]api.Served{s}, 20)...)
}

func TestWhichTerm(t *testing.T) { // P29.1: the first one that is not
	s, wrong := ordered(steps(0, 0, 0, 1, 2)), ordered(steps(0, 1, 0, 1, 2))
	wantOrder(t, "the first one", 3, bad0, wrong, s, s)
	wantOrder(t, "the second one", 3, bad(1), s, wrong, s)
	wantOrder(t, "the last one", 3, bad(2), s, s, wrong)
	wantOrder(t, "two of them", 3, bad(1), s, wrong, wrong)
	closed := wrong
	closed.Open = api.ErrIO
	wantOrder(t, "behind one without an engine", 3, bad(2), s, closed, wrong)
	wantOrder(t, "none but one without an engine", 3, fine, s, closed, s)
}

func TestHowManyLines(t *testing.T) { // P29.1: MaxConns, but where Open is not OK
	for _, n := range []int{0, 1, 7, 8, 9, 16} {
		s := ordered()
		s.Lines = make([]api.Line, n)
		wantOrder(t, "lines", 2, found{n == 8, boolInt(n != 8)}, ordered(), s)
		s.Open = api.ErrDamaged
		wantOrder(t, "lines without an engine", 2, fine, ordered(), s)
		s.Open = -1
		wantOrder(t, "lines with an Open that is none", 2, fine, ordered(), s)
	}
}

func TestNumbers(t *testing.T) { // P29.1: of each connection 0, 1, .. in their order
	of := func(l ...[2]int) []api.Asked {
		var all []api.Asked
		for i, x := range l {
			all = append(all, steps(x[0], x[1], 0, i, -1))
		}
		return all
	}
	for _, x := range []struct {
		what   string
		should found
		l      []api.Asked
	}{
		{"none", fine, nil},
		{"one", fine, of([2]int{0, 0})},
		{"three", fine, of([2]int{3, 0}, [2]int{3, 1}, [2]int{3, 2})},
		{"two connections", fine, of([2]int{0, 0}, [2]int{1, 0}, [2]int{1, 1}, [2]int{0, 1}, [2]int{1, 2})},
		{"from 1 on", bad0, of([2]int{0, 1})},
		{"from -1 on", bad0, of([2]int{0, -1}, [2]int{0, 0})},
		{"from 1 on, all", bad0, of([2]int{0, 1}, [2]int{0, 2})},
		{"from 1 on, on the second one", bad0, of([2]int{0, 0}, [2]int{7, 1})},
		{"numbered without its connection", bad0, of([2]int{0, 0}, [2]int{1, 1}, [2]int{0, 2})},
		{"one is left out", bad0, of([2]int{0, 0}, [2]int{0, 2})},
		{"one twice", bad0, of([2]int{0, 0}, [2]int{0, 0})},
		{"one twice, then on", bad0, of([2]int{0, 0}, [2]int{0, 1}, [2]int{0, 1}, [2]int{0, 2})},
		{"not in their order", bad0, of([2]int{0, 0}, [2]int{0, 2}, [2]int{0, 1})},
		{"turned round", bad0, of([2]int{0, 1}, [2]int{0, 0})},
		{"one is not in its order, another connection between", bad0, of([2]int{0, 1}, [2]int{1, 0}, [2]int{0, 0})},
		{"the greatest number", bad0, of([2]int{0, math.MaxInt})},
		{"connections that are none", fine, of([2]int{-1, 0}, [2]int{8, 0}, [2]int{-1, 1}, [2]int{math.MaxInt, 0})},
		{"one that is none, from 1 on", bad0, of([2]int{8, 1})},
	} {
		wantOrder(t, x.what, 1, x.should, ordered(x.l...))
	}
}

func TestUnlikePoints(t *testing.T) { // P29.1: no two in a term that have one
	one, two := steps(0, 0, 0, 5, 6), steps(1, 0, 0, 5, 7)
	wantOrder(t, "on two connections", 1, bad0, ordered(one, two))
	wantOrder(t, "on one", 1, bad0, ordered(one, steps(0, 1, 0, 5, 7)))
	wantOrder(t, "at 0", 1, bad0, ordered(steps(0, 0, 0, 0, 6), steps(1, 0, 0, 0, 7)))
	wantOrder(t, "the first and the last one", 1, bad0, ordered(one, steps(2, 0, 0, 4, 7), steps(3, 0, 0, 3, 7), steps(0, 1, 0, 6, 7), two))
	wantOrder(t, "the first and the third one", 1, bad0, ordered(one, steps(2, 0, 0, 4, 7), two))
	wantOrder(t, "in two terms", 2, fine, ordered(one), ordered(two))
	wantOrder(t, "without a point", 1, fine, ordered(steps(0, 0, 0, -1, -1), steps(1, 0, 0, -1, -1), steps(0, 1, 8, -1, -1)))
	wantOrder(t, "points that fall", 1, fine, ordered(steps(0, 0, 0, 8, -1), steps(1, 0, 0, 4, 4), steps(2, 0, 0, 0, 8)))
	wantOrder(t, "one is sent as the other one is determined", 1, fine, ordered(steps(0, 0, 0, 1, 5), two))
}

func TestOneUnsure(t *testing.T) { // P29.1: one at most in a term
	one, two := unsure(steps(0, 0, 0, 5, 6)), unsure(steps(1, 0, 0, 7, -1))
	wantOrder(t, "one", 1, fine, ordered(one))
	wantOrder(t, "one without a point", 1, fine, ordered(unsure(steps(0, 0, 0, -1, -1))))
	wantOrder(t, "two", 1, bad0, ordered(one, two))
	wantOrder(t, "two in the second term", 2, bad(1), ordered(one), ordered(one, two))
	wantOrder(t, "one each", 2, fine, ordered(one), ordered(two))
	wantOrder(t, "two, one between", 1, bad0, ordered(one, steps(2, 0, 0, 6, 6), two))
	s := ordered(one, two)
	s.Open = api.ErrIO
	wantOrder(t, "two without an engine", 1, fine, s)
	for _, fate := range []int{api.FateOpen, api.FateDone, api.FateNone, -1, 4, math.MaxInt} {
		other := two
		other.Fate = fate
		wantOrder(t, "another fate", 1, fine, ordered(one, other))
	}
}

func TestStepsFollow(t *testing.T) { // P29.1: First, Point, Done, Steps
	for _, x := range []struct {
		what               string
		first, point, done int
		should             found
	}{
		{"all at 0", 0, 0, 0, fine},
		{"rising", 1, 4, 7, fine},
		{"First at the Point", 4, 4, 7, fine},
		{"First one above it", 5, 4, 7, bad0},
		{"First far above it", math.MaxInt, 4, 7, bad0},
		{"First above it, not sent", 5, 4, -1, bad0},
		{"First without a Point", 5, -1, -1, fine},
		{"First without a Point at Steps", 9, -1, -1, fine},
		{"First above all without a Point", math.MaxInt, -1, -1, fine},
		{"First below 0", -1, 0, 0, fine},
		{"not sent", 1, 4, -1, fine},
		{"sent at its Point", 1, 4, 4, fine},
		{"sent one below its Point", 1, 4, 3, bad0},
		{"sent at 0, its Point is 1", 0, 1, 0, bad0},
		{"sent without a Point", 1, -1, 4, bad0},
		{"sent at 0 without a Point", 0, -1, 0, bad0},
		{"its Point is the last step", 1, 8, -1, fine},
		{"its Point is at Steps", 1, 9, -1, bad0},
		{"its Point is above Steps", 1, 10, -1, bad0},
		{"sent at the last step", 1, 4, 8, fine},
		{"sent at Steps", 1, 4, 9, bad0},
		{"sent above Steps", 1, 4, math.MaxInt, bad0},
		{"both at the last step", 8, 8, 8, fine},
		{"both at Steps", 9, 9, 9, bad0},
		{"other numbers below 0", -5, -2, -7, fine},
		{"the least numbers", math.MinInt, math.MinInt, math.MinInt, fine},
	} {
		wantOrder(t, x.what, 1, x.should, ordered(steps(0, 0, x.first, x.point, x.done)))
		wantOrder(t, x.what+", behind another one", 2, found{x.should.is, boolInt(!x.should.is)}, ordered(), ordered(steps(1, 0, 0, 2, 2), steps(0, 0, x.first, x.point, x.done)))
	}
	for n := range 4 {
		s := ordered(steps(0, 0, 0, 2, 2))
		s.Steps = n
		wantOrder(t, "Steps", 1, found{n > 2, 0}, s)
	}
	s := ordered(steps(0, 0, 0, -1, -1))
	s.Steps = 0
	wantOrder(t, "neither a Point nor Steps", 1, fine, s)
	s.Steps = -1
	wantOrder(t, "Steps below 0", 1, fine, s)
}

func boolInt(is bool) int {
	if is {
		return 1
	}
	return 0
}

func TestOrderOfNothing(t *testing.T) { // P29.1: it asks neither for what the server has nor for what was to come
	s := ordered(steps(0, 0, 0, 5, 6), unsure(steps(0, 1, 2, 7, 8)))
	for _, c := range []api.Config{{}, config(1), {Tenants: []api.Tenant{{Name: "A"}}}} {
		for _, l := range [][]api.Term{make([]api.Term, 1), {term(zeros(3), at(9, 9, "x"))}} {
			is, n := lin.Order(c, l, api.Told{Err: api.ErrFull, Terms: []api.Served{s}, End: make([]api.Kept, 5)})
			want(t, "Order", found{is, n}, fine)
		}
	}
	is, n := lin.Order(api.Config{}, nil, api.Told{})
	want(t, "Order of nothing", found{is, n}, fine)
}
