package merge_test

import (
	"math"
	"slices"
	"strconv"
	"testing"

	"atrium/api"
	"atrium/merge"
)

// want fails the test, if what was told is not what should be.
func want[T comparable](t *testing.T, what string, got, should T) {
	t.Helper()
	if got != should {
		t.Errorf("%s: %v, not %v", what, got, should)
	}
}

// wantList is want of lists.
func wantList[T comparable](t *testing.T, what string, got, should []T) {
	t.Helper()
	if !slices.Equal(got, should) {
		t.Errorf("%s: %v, not %v", what, got, should)
	}
}

// wantLists is want of lists of lists.
func wantLists(t *testing.T, what string, got, should [][]api.Cell) {
	t.Helper()
	if !slices.EqualFunc(got, should, slices.Equal[[]api.Cell]) {
		t.Errorf("%s: %v, not %v", what, got, should)
	}
}

// value and gone are cells.
func value(key string, seq uint64, value string) api.Cell {
	return api.Cell{Key: key, Seq: seq, Value: value}
}

func gone(key string, seq uint64) api.Cell {
	return api.Cell{Key: key, Seq: seq, Gone: true}
}

// cells is a list of cells of a letter and a digit each; a minus behind them: it is gone.
func cells(words ...string) []api.Cell {
	var l []api.Cell
	for _, w := range words {
		c := api.Cell{Key: w[:1], Seq: uint64(w[1] - '0'), Gone: len(w) > 2}
		if !c.Gone {
			c.Value = "of " + w
		}
		l = append(l, c)
	}
	return l
}

// unsorted is lists that are not in order.
func unsorted() [][]api.Cell {
	return [][]api.Cell{
		cells("b1", "a1"), cells("a1", "a2"), cells("a1", "a1"), cells("a1", "a1-"), cells("a1-", "a1"), {value("a", 1, "x"), value("a", 1, "y")},
		{value("ab", 1, "x"), value("a", 1, "x")}, {value("\x80", 1, "x"), value("\x7f", 1, "x")}, {value("a", 0, "x"), value("a", math.MaxUint64, "x")},
		cells("a1", "b1", "a0"), cells("a3", "a2", "b1", "b2", "c1"), cells("a3", "a2", "a2", "b1"), cells("a1", "b1", "c1", "c1"), cells("b1", "a1", "c1"),
	}
}

// inOrder is lists that are in order.
func inOrder() [][]api.Cell {
	return [][]api.Cell{
		nil, {}, cells("a1"), cells("a1-"), cells("a2", "a1"), cells("a2-", "a1-"), cells("a1", "b1"), cells("a1", "b9"), cells("a3", "a1", "b9", "b0", "c4"),
		{value("a", 1, "x"), value("ab", 1, "x")}, {value("\x00", 1, "x"), value("\x7f", 1, "x"), value("\x80", 1, "x"), value("\xff", 1, "x")},
		{value("a", api.MaxSeq, "x"), value("a", 0, "x"), value("a\x00", 1, "x"), value("a\x00\x00", 1, "x")},
		{{}}, {value("", math.MaxUint64, "x"), gone("", 1), value("a", math.MaxUint64, "")}, // cells that may not be are cells, too
	}
}

func TestLess(t *testing.T) { // P10.1
	order := []api.Cell{
		value("", math.MaxUint64, ""), value("", 0, ""), value("\x00", 9, "x"), value("a", math.MaxUint64, "x"), value("a", api.MaxSeq, ""), gone("a", 3), value("a", 2, "z"), gone("a", 0),
		value("a\x00", 1, "x"), value("ab", 9, "x"), value("ab", 8, "x"), value("b", 0, "x"), value("\x7f", 1, ""), value("\x80", 1, ""), value("\xff", 5, "x"), value("\xff\xff", 5, "x"),
	}
	for i, a := range order {
		for j, b := range order {
			want(t, "Less "+strconv.Itoa(i)+" "+strconv.Itoa(j), merge.Less(a, b), i < j)
		}
	}
	for _, x := range [][2]api.Cell{{value("a", 1, "x"), value("a", 1, "y")}, {value("a", 1, "x"), gone("a", 1)}, {{}, {}}, {gone("a", 1), gone("a", 1)}} {
		want(t, "alike", merge.Less(x[0], x[1]), false)
		want(t, "alike", merge.Less(x[1], x[0]), false)
	}
}

func TestSorted(t *testing.T) { // P10.1
	for _, l := range inOrder() {
		want(t, "in order", merge.Sorted(l), true)
	}
	for _, l := range unsorted() {
		want(t, "not in order", merge.Sorted(l), false)
	}
}

// wantMerge is what Merge should tell, and Cells go over.
func wantMerge(t *testing.T, what string, should []api.Cell, lists ...[]api.Cell) {
	t.Helper()
	wantList(t, "Merge "+what, merge.Merge(lists...), should)
	wantList(t, "Cells "+what, slices.Collect(merge.Cells(lists...)), should)
}

func TestMerge(t *testing.T) { // P10.2
	wantMerge(t, "of no list", nil)
	wantMerge(t, "of nil", nil, nil)
	wantMerge(t, "of empty ones", nil, nil, []api.Cell{}, nil)
	for _, l := range inOrder() {
		wantMerge(t, "of one", l, l)
		wantMerge(t, "of one twice", l, l, l)
		wantMerge(t, "of one among empty ones", l, nil, l, []api.Cell{})
	}
	for _, x := range []struct{ a, b, should []api.Cell }{
		{cells("a1"), cells("b1"), cells("a1", "b1")},
		{cells("b1"), cells("a1"), cells("a1", "b1")},
		{cells("a1"), cells("a2"), cells("a2", "a1")},
		{cells("a2-"), cells("a1"), cells("a2-", "a1")},
		{cells("a1", "a0", "b9"), cells("a5", "c1"), cells("a5", "a1", "a0", "b9", "c1")},
		{cells("a9", "c9", "e9"), cells("b1", "d1", "f1"), cells("a9", "b1", "c9", "d1", "e9", "f1")},
		{cells("a9", "b9", "c9"), cells("d1", "e1"), cells("a9", "b9", "c9", "d1", "e1")},
		{cells("k9", "k7", "k5"), cells("k8", "k6", "k4"), cells("k9", "k8", "k7", "k6", "k5", "k4")},
	} {
		wantMerge(t, "of two", x.should, x.a, x.b)
		wantMerge(t, "of two, turned", x.should, x.b, x.a)
	}
	wantMerge(t, "of three", cells("a3", "a2", "a1", "b3", "b2", "b1"), cells("a3", "b1"), cells("a2", "b2"), cells("a1", "b3"))
}

func TestMergeAlike(t *testing.T) { // P10.2: the one of the first list that has one
	a, b, c := value("k", 5, "first"), value("k", 5, "second"), gone("k", 5)
	for _, x := range [][]api.Cell{{a, b, c}, {a, c, b}, {b, a, c}, {b, c, a}, {c, a, b}, {c, b, a}} {
		wantMerge(t, "alike", x[:1], x[:1], x[1:2], x[2:])
		wantMerge(t, "alike, behind empty ones", x[:1], nil, x[:1], nil, x[1:2], x[2:])
		around := func(c api.Cell) []api.Cell { return []api.Cell{value("j", 1, "j"), c, value("l", 1, "l")} }
		wantMerge(t, "alike among others", around(x[0]), around(x[0]), x[1:2], around(x[2]))
		wantMerge(t, "alike at the end", []api.Cell{value("a", 1, ""), value("k", 9, ""), x[0]}, []api.Cell{value("a", 1, ""), x[0]}, []api.Cell{value("k", 9, ""), x[1]}, x[2:])
		wantMerge(t, "not in the first list", []api.Cell{value("a", 1, ""), x[0], value("z", 1, "")}, []api.Cell{value("a", 1, ""), value("z", 1, "")}, x[:1], x[1:2])
		wantMerge(t, "unlike in Seq", []api.Cell{value("k", 6, "six"), x[0], value("k", 4, "four")}, []api.Cell{value("k", 4, "four")}, x[:1], []api.Cell{value("k", 6, "six"), x[1]})
	}
	var lists [][]api.Cell
	for i := range 40 {
		lists = append(lists, []api.Cell{value("k", 5, strconv.Itoa(i)), value("k"+strconv.Itoa(i%7), 1, strconv.Itoa(i))})
	}
	var should []api.Cell
	should = append(should, value("k", 5, "0"))
	for i := range 7 {
		should = append(should, value("k"+strconv.Itoa(i), 1, strconv.Itoa(i)))
	}
	wantMerge(t, "of many lists", should, lists...)
}

func TestMergeUnsorted(t *testing.T) { // P10.2: nothing
	good := cells("a3", "a1", "b2")
	for _, l := range unsorted() {
		wantMerge(t, "of one", nil, l)
		wantMerge(t, "first", nil, l, good)
		wantMerge(t, "last", nil, good, l)
		wantMerge(t, "between", nil, good, nil, l, good)
		wantMerge(t, "twice", nil, l, l)
	}
}

func TestCellsLeft(t *testing.T) { // R5: left early, and begun anew
	should := cells("a3", "a2", "a1", "b2", "b1", "c1")
	all := merge.Cells(cells("a3", "b1"), cells("a2", "b2", "c1"), cells("a3", "a1"))
	for n := range should {
		var got []api.Cell
		for c := range all {
			got = append(got, c)
			if len(got) == n+1 {
				break
			}
		}
		wantList(t, "left", got, should[:n+1])
	}
	wantList(t, "anew", slices.Collect(all), should)
	wantList(t, "once more", slices.Collect(all), should)
	for range all { // one within another
		wantList(t, "within", slices.Collect(all), should)
	}
	calls := 0
	all(func(api.Cell) bool {
		calls++
		return false
	})
	want(t, "asked once", calls, 1)
}

func TestCellsOfTheCall(t *testing.T) { // R5: as the lists were at the call
	a, b := cells("a3", "b1"), cells("a2", "b2", "c1")
	lists := [][]api.Cell{a, b}
	all := merge.Cells(lists...)
	should := cells("a3", "a2", "b2", "b1", "c1")
	n := 0
	for c := range all {
		want(t, "while it is ranged over", c, should[n])
		a[1], b[1], b[2] = api.Cell{}, api.Cell{}, api.Cell{}
		n++
	}
	want(t, "cells", n, 5)
	lists[0], lists[1] = nil, cells("z1")
	a[0], b[0] = value("y", 1, ""), value("x", 1, "")
	wantList(t, "behind it", slices.Collect(all), should)
	wrong := cells("b1", "a1")
	none := merge.Cells(wrong)
	wrong[0], wrong[1] = wrong[1], wrong[0]
	wantList(t, "not in order at the call", slices.Collect(none), nil)
}

func TestManyLists(t *testing.T) { // P10.2: lists are as many as one likes
	var lists [][]api.Cell
	var should []api.Cell
	for i := range 500 {
		key := "key" + strconv.Itoa(1000+i*7%500)
		lists = append(lists, []api.Cell{value(key, 2, "x"), value(key, 1, "y")}, []api.Cell{gone("z", uint64(i+1))})
		should = append(should, value("key"+strconv.Itoa(1000+i), 2, "x"), value("key"+strconv.Itoa(1000+i), 1, "y"))
	}
	for i := 500; i > 0; i-- {
		should = append(should, gone("z", uint64(i)))
	}
	wantMerge(t, "of many", should, lists...)
}

func TestArgumentsStay(t *testing.T) { // R3: also what lies behind a list's end
	a, b := cells("a3", "a1-", "b1", "a0", "z1"), cells("a2", "b2", "c1", "a9", "z1")
	wasA, wasB := slices.Clone(a), slices.Clone(b)
	lists := [][]api.Cell{a[:3], b[:3], nil, a[:1]}
	merge.Merge(lists...)
	for range merge.Cells(lists...) {
	}
	merge.Merge(a, b)
	for _, l := range [][]api.Cell{a, a[:3], b, b[:3], a[:0]} {
		for seq := range uint64(10) {
			merge.Visible(l, seq)
			merge.Drop(l, seq, true)
			merge.Drop(l, seq, false)
		}
		for size := range 80 {
			merge.Cut(l, size)
		}
		merge.Sorted(l)
	}
	wantList(t, "the first list", a, wasA)
	wantList(t, "the second list", b, wasB)
	wantLists(t, "the lists", lists, [][]api.Cell{wasA[:3], wasB[:3], nil, wasA[:1]})
}

// spoil changes all cells of a list, and those in the room behind it.
func spoil(l []api.Cell) {
	for i := range l[:cap(l)] {
		l[:cap(l)][i] = value("spoilt", 7, "spoilt")
	}
}

func TestAnswersAreNew(t *testing.T) { // R3: also an answer's spare room
	a, b := cells("a3", "a1", "b1"), cells("a2", "b2", "c1")
	for name, tell := range map[string]func(l []api.Cell) []api.Cell{
		"Merge":         func(l []api.Cell) []api.Cell { return merge.Merge(l) },
		"Merge of more": func(l []api.Cell) []api.Cell { return merge.Merge(nil, l, b) },
		"Visible":       func(l []api.Cell) []api.Cell { return merge.Visible(l, 3) },
		"Drop":          func(l []api.Cell) []api.Cell { return merge.Drop(l, 2, false) },
		"Drop of none":  func(l []api.Cell) []api.Cell { return merge.Drop(l, 0, false) },
		"Cut":           func(l []api.Cell) []api.Cell { return merge.Cut(l, 1000)[0] },
		"the last piece": func(l []api.Cell) []api.Cell {
			p := merge.Cut(l, 1)
			spoil(p[0])
			return p[1]
		},
	} {
		l := slices.Concat(a, cells("z9", "z8"))[:3]
		one, two := tell(l), tell(l)
		was := slices.Clone(two)
		want(t, name+" tells something", len(one) > 0, true)
		spoil(one)
		wantList(t, name+": another answer", two, was)
		wantList(t, name+": the argument", l[:5], slices.Concat(a, cells("z9", "z8")))
		spoil(l)
		wantList(t, name+": what was answered", two, was)
	}
	wantList(t, "the other list", b, cells("a2", "b2", "c1"))
	pieces := merge.Cut(cells("a3", "a1", "b1", "c2", "c1", "d1"), 1)
	want(t, "pieces", len(pieces), 4)
	spoil(pieces[1])
	wantLists(t, "the other pieces", [][]api.Cell{pieces[0], pieces[2], pieces[3]}, [][]api.Cell{cells("a3", "a1"), cells("c2", "c1"), cells("d1")})
}

func TestExamples(t *testing.T) { // the chapter's examples
	l := merge.Merge(cells("a3", "a1"), cells("a2", "b1"))
	wantList(t, "1: Merge", l, cells("a3", "a2", "a1", "b1"))
	wantList(t, "1: Visible", merge.Visible(l, 2), cells("a2", "b1"))
	wantList(t, "2: Drop", merge.Drop(cells("a3", "a2", "a1"), 2, false), cells("a3", "a2"))
	wantList(t, "2: Drop with bottom", merge.Drop(cells("a3", "a2", "a1"), 2, true), cells("a3", "a2"))
	wantList(t, "2: Gone", merge.Drop(cells("a3", "a2-", "a1"), 2, false), cells("a3", "a2-"))
	wantList(t, "2: Gone, with bottom", merge.Drop(cells("a3", "a2-", "a1"), 2, true), cells("a3"))
}
