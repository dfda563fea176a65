package merge_test

import (
	"math"
	"strconv"
	"strings"
	"testing"

	"atrium/api"
	"atrium/merge"
)

func TestVisible(t *testing.T) { // P10.3
	l := cells("a6", "a4-", "a2", "b5-", "b3", "c7", "d1-", "e0", "f9-", "f8-")
	for _, x := range []struct {
		seq    uint64
		should []api.Cell
	}{
		{0, cells("e0")}, {1, cells("e0")}, {2, cells("a2", "e0")}, {3, cells("a2", "b3", "e0")}, {4, cells("b3", "e0")}, {5, cells("e0")}, {6, cells("a6", "e0")},
		{7, cells("a6", "c7", "e0")}, {8, cells("a6", "c7", "e0")}, {9, cells("a6", "c7", "e0")}, {10, cells("a6", "c7", "e0")}, {api.MaxSeq, cells("a6", "c7", "e0")}, {math.MaxUint64, cells("a6", "c7", "e0")},
	} {
		wantList(t, "Visible at "+strconv.FormatUint(x.seq, 10), merge.Visible(l, x.seq), x.should)
	}
	top := []api.Cell{value("k", api.MaxSeq, "x"), value("k", api.MaxSeq-1, "y")}
	wantList(t, "at MaxSeq", merge.Visible(top, api.MaxSeq), top[:1])
	wantList(t, "one below", merge.Visible(top, api.MaxSeq-1), top[1:])
	wantList(t, "two below", merge.Visible(top, api.MaxSeq-2), nil)
}

func TestDrop(t *testing.T) { // P10.3
	l := cells("a6", "a4-", "a2", "b5-", "b3", "c7", "d1-", "e0", "f9-", "f8-")
	for _, x := range []struct {
		oldest       uint64
		left, bottom []api.Cell
	}{
		{0, l, l},
		{1, l, cells("a6", "a4-", "a2", "b5-", "b3", "c7", "e0", "f9-", "f8-")},
		{2, l, cells("a6", "a4-", "a2", "b5-", "b3", "c7", "e0", "f9-", "f8-")},
		{3, l, cells("a6", "a4-", "a2", "b5-", "b3", "c7", "e0", "f9-", "f8-")},
		{4, cells("a6", "a4-", "b5-", "b3", "c7", "d1-", "e0", "f9-", "f8-"), cells("a6", "b5-", "b3", "c7", "e0", "f9-", "f8-")},
		{5, cells("a6", "a4-", "b5-", "c7", "d1-", "e0", "f9-", "f8-"), cells("a6", "c7", "e0", "f9-", "f8-")},
		{6, cells("a6", "b5-", "c7", "d1-", "e0", "f9-", "f8-"), cells("a6", "c7", "e0", "f9-", "f8-")},
		{7, cells("a6", "b5-", "c7", "d1-", "e0", "f9-", "f8-"), cells("a6", "c7", "e0", "f9-", "f8-")},
		{8, cells("a6", "b5-", "c7", "d1-", "e0", "f9-", "f8-"), cells("a6", "c7", "e0", "f9-")},
		{9, cells("a6", "b5-", "c7", "d1-", "e0", "f9-"), cells("a6", "c7", "e0")},
		{10, cells("a6", "b5-", "c7", "d1-", "e0", "f9-"), cells("a6", "c7", "e0")},
		{api.MaxSeq, cells("a6", "b5-", "c7", "d1-", "e0", "f9-"), cells("a6", "c7", "e0")},
		{math.MaxUint64, cells("a6", "b5-", "c7", "d1-", "e0", "f9-"), cells("a6", "c7", "e0")},
	} {
		wantList(t, "Drop with "+strconv.FormatUint(x.oldest, 10), merge.Drop(l, x.oldest, false), x.left)
		wantList(t, "Drop at the bottom with "+strconv.FormatUint(x.oldest, 10), merge.Drop(l, x.oldest, true), x.bottom)
	}
	top := []api.Cell{gone("k", api.MaxSeq), value("k", api.MaxSeq-1, "y"), gone("k", 0)}
	wantList(t, "at MaxSeq", merge.Drop(top, api.MaxSeq, false), top[:1])
	wantList(t, "at MaxSeq, at the bottom", merge.Drop(top, api.MaxSeq, true), nil)
	wantList(t, "one below", merge.Drop(top, api.MaxSeq-1, true), top[:2])
	wantList(t, "two below", merge.Drop(top, api.MaxSeq-2, true), top[:2])
	wantList(t, "two below, not at the bottom", merge.Drop(top, api.MaxSeq-2, false), top)
	wantList(t, "at 0, at the bottom", merge.Drop(top, 0, true), top[:2])
}

func TestSeenOfNothing(t *testing.T) { // P10.3, P10.4: of no cells, and of a list that is not in order
	for _, l := range append(unsorted(), nil, []api.Cell{}) {
		for _, seq := range []uint64{0, 1, 2, api.MaxSeq, math.MaxUint64} {
			wantList(t, "Visible", merge.Visible(l, seq), nil)
			wantList(t, "Drop", merge.Drop(l, seq, false), nil)
			wantList(t, "Drop at the bottom", merge.Drop(l, seq, true), nil)
		}
		for _, size := range []int{math.MinInt, -1, 0, 1, 17, 1000, math.MaxInt} {
			wantLists(t, "Cut", merge.Cut(l, size), nil)
		}
	}
}

// heavy is a cell that comes to so many bytes, with 16.
func heavy(key string, seq uint64, weight int) api.Cell {
	return value(key, seq, strings.Repeat("v", weight-16-len(key)))
}

// wantCut is which pieces there should be, by how many cells each has.
func wantCut(t *testing.T, what string, l []api.Cell, size int, lengths ...int) {
	t.Helper()
	var should [][]api.Cell
	rest := l
	for _, n := range lengths {
		should = append(should, rest[:n])
		rest = rest[n:]
	}
	want(t, what+": all of it", len(rest), 0)
	wantLists(t, what, merge.Cut(l, size), should)
}

func TestCut(t *testing.T) { // P10.4
	l := []api.Cell{heavy("a", 1, 50), heavy("b", 1, 50), heavy("c", 1, 50), heavy("d", 1, 50)}
	for _, x := range []struct {
		size    int
		lengths []int
	}{
		{1, []int{1, 1, 1, 1}}, {49, []int{1, 1, 1, 1}}, {50, []int{1, 1, 1, 1}}, {99, []int{1, 1, 1, 1}}, {100, []int{2, 2}}, {101, []int{2, 2}}, {149, []int{2, 2}},
		{150, []int{3, 1}}, {151, []int{3, 1}}, {199, []int{3, 1}}, {200, []int{4}}, {201, []int{4}}, {math.MaxInt, []int{4}},
	} {
		wantCut(t, "one version each, size "+strconv.Itoa(x.size), l, x.size, x.lengths...)
	}
	for _, size := range []int{0, -1, -50, math.MinInt} {
		wantLists(t, "size "+strconv.Itoa(size), merge.Cut(l, size), nil)
	}
	wantCut(t, "one cell", l[:1], 1, 1)
	wantCut(t, "one cell", l[:1], 50, 1)
	wantCut(t, "one cell", l[:1], 1000, 1)
	wantCut(t, "gone", []api.Cell{gone("a", 1), gone("b", 1), gone("c", 1)}, 34, 2, 1)
	wantCut(t, "gone", []api.Cell{gone("a", 1), gone("b", 1), gone("c", 1)}, 33, 1, 1, 1)
	wantCut(t, "keys count", []api.Cell{gone("aaa", 1), gone("bb", 1), gone("c", 1)}, 37, 2, 1)
	wantCut(t, "keys count", []api.Cell{gone("aaa", 1), gone("bb", 1), gone("c", 1)}, 36, 1, 2)
}

func TestCutKeys(t *testing.T) { // P10.4: no key stands in two pieces
	l := []api.Cell{heavy("a", 3, 50), heavy("a", 2, 50), heavy("a", 1, 50), heavy("b", 1, 40), heavy("c", 2, 30), gone("c", 1), heavy("d", 1, 60)}
	for _, x := range []struct {
		size    int
		lengths []int
	}{
		{1, []int{3, 1, 2, 1}}, {46, []int{3, 1, 2, 1}}, {47, []int{3, 1, 2, 1}}, {86, []int{3, 1, 2, 1}}, {87, []int{3, 3, 1}}, {107, []int{3, 3, 1}}, {146, []int{3, 3, 1}}, {147, []int{3, 4}},
		{149, []int{3, 4}}, {150, []int{3, 4}}, {189, []int{3, 4}}, {190, []int{4, 3}}, {236, []int{4, 3}}, {237, []int{6, 1}}, {296, []int{6, 1}}, {297, []int{7}},
	} {
		wantCut(t, "size "+strconv.Itoa(x.size), l, x.size, x.lengths...)
	}
	big := []api.Cell{heavy("a", 1, 20), heavy("b", 1, 900), heavy("c", 1, 20), heavy("d", 1, 20)}
	wantCut(t, "one cell that alone is greater", big, 40, 1, 1, 2)
	wantCut(t, "one key that alone is greater", []api.Cell{heavy("a", 1, 20), heavy("b", 3, 30), heavy("b", 2, 30), heavy("b", 1, 30), heavy("c", 1, 20), heavy("d", 1, 20)}, 40, 1, 3, 2)
	wantCut(t, "at the end", big[:2], 40, 1, 1)
	wantCut(t, "at the beginning", big[1:], 40, 1, 2)
}
