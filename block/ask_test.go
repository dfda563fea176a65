package block_test

import (
	"math"
	"slices"
	"strconv"
	"strings"
	"testing"

	"atrium/api"
	"atrium/block"
)

// wantCell is what Get or Seek should tell; nil: nothing.
func wantCell(t *testing.T, what string, c api.Cell, ok bool, should *api.Cell) {
	t.Helper()
	want(t, what, ok, should != nil)
	if should == nil {
		should = &api.Cell{}
	}
	want(t, what, c, *should)
}

// wantAsked is what a block tells of a place, held against what its list says.
func wantAsked(t *testing.T, b *block.Block, l []api.Cell, key string, seq uint64) {
	t.Helper()
	var newest, first *api.Cell
	for i, c := range l {
		if newest == nil && c.Key == key && c.Seq <= seq {
			newest = &l[i]
		}
		if first == nil && (c.Key > key || c.Key == key && c.Seq <= seq) {
			first = &l[i]
		}
	}
	what := strconv.Quote(key) + " " + strconv.FormatUint(seq, 10)
	c, ok := b.Get(key, seq)
	wantCell(t, "Get "+what, c, ok, newest)
	c, ok = b.Seek(key, seq)
	wantCell(t, "Seek "+what, c, ok, first)
	if got, is := b.Get(key, seq); is != (ok && c.Key == key) || is && got != c {
		t.Errorf("Get is not what Seek tells: %s", what)
	}
}

// within is the cells of a list whose keys are in a range.
func within(l []api.Cell, from, to string) []api.Cell {
	var in []api.Cell
	for _, c := range l {
		if c.Key >= from && (to == "" || c.Key < to) {
			in = append(in, c)
		}
	}
	return in
}

// some is a list with several versions of its keys.
func some() []api.Cell {
	return []api.Cell{
		value("b", 9, "b9"), gone("b", 6), value("b", 3, "b3"), value("ba", 7, "ba7"), value("bb", 8, ""), gone("bb", 2),
		value("d", api.MaxSeq, "d"), value("d", 5, "d5"), value("d", 0, "d0"), gone("f", 4), value("f\x00", 4, "x"),
	}
}

func TestGet(t *testing.T) { // P8.2
	for restart := 1; restart <= 12; restart++ {
		b := opened(t, restart, some()...)
		for _, x := range []struct {
			key    string
			seq    uint64
			should *api.Cell
		}{
			{"b", 9, &api.Cell{Key: "b", Seq: 9, Value: "b9"}}, {"b", 10, &api.Cell{Key: "b", Seq: 9, Value: "b9"}}, {"b", math.MaxUint64, &api.Cell{Key: "b", Seq: 9, Value: "b9"}},
			{"b", 8, &api.Cell{Key: "b", Seq: 6, Gone: true}}, {"b", 6, &api.Cell{Key: "b", Seq: 6, Gone: true}}, {"b", 5, &api.Cell{Key: "b", Seq: 3, Value: "b3"}},
			{"b", 3, &api.Cell{Key: "b", Seq: 3, Value: "b3"}}, {"b", 2, nil}, {"b", 0, nil}, {"bb", 1, nil}, {"bb", 7, &api.Cell{Key: "bb", Seq: 2, Gone: true}},
			{"d", api.MaxSeq, &api.Cell{Key: "d", Seq: api.MaxSeq, Value: "d"}}, {"d", api.MaxSeq + 1, &api.Cell{Key: "d", Seq: api.MaxSeq, Value: "d"}},
			{"d", api.MaxSeq - 1, &api.Cell{Key: "d", Seq: 5, Value: "d5"}}, {"d", 4, &api.Cell{Key: "d", Seq: 0, Value: "d0"}}, {"d", 0, &api.Cell{Key: "d", Seq: 0, Value: "d0"}},
			{"", 9, nil}, {"a", 9, nil}, {"b\x00", 9, nil}, {"bc", 9, nil}, {"c", 9, nil}, {"e", math.MaxUint64, nil}, {"f", 3, nil}, {"f\x00", 4, &api.Cell{Key: "f\x00", Seq: 4, Value: "x"}},
			{"f\x00", 3, nil}, {"f\x00\x00", 9, nil}, {"g", 9, nil}, {"\xff", 9, nil}, {strings.Repeat("z", 1000), 9, nil}, {strings.Repeat("b", 129), 9, nil},
		} {
			c, ok := b.Get(x.key, x.seq)
			wantCell(t, "Get "+strconv.Quote(x.key), c, ok, x.should)
		}
	}
}

func TestSeek(t *testing.T) { // P8.2
	l := some()
	for restart := 1; restart <= 12; restart++ {
		b := opened(t, restart, l...)
		for _, x := range []struct {
			key string
			seq uint64
			at  int // among the list's; beyond them: none
		}{
			{"", 0, 0}, {"", math.MaxUint64, 0}, {"a", 0, 0}, {"b", math.MaxUint64, 0}, {"b", 9, 0}, {"b", 8, 1}, {"b", 6, 1}, {"b", 5, 2}, {"b", 3, 2}, {"b", 2, 3}, {"b", 0, 3},
			{"b\x00", 9, 3}, {"ba", 6, 4}, {"bb", 8, 4}, {"bb", 7, 5}, {"bb", 1, 6}, {"c", 0, 6}, {"d", api.MaxSeq + 1, 6}, {"d", api.MaxSeq, 6}, {"d", api.MaxSeq - 1, 7}, {"d", 0, 8},
			{"d\x00", 9, 9}, {"f", 4, 9}, {"f", 3, 10}, {"f\x00", 4, 10}, {"f\x00", 3, 11}, {"g", math.MaxUint64, 11}, {"\xff\xff", 0, 11}, {strings.Repeat("b", 129), 9, 6},
		} {
			c, ok := b.Seek(x.key, x.seq)
			var should *api.Cell
			if x.at < len(l) {
				should = &l[x.at]
			}
			wantCell(t, "Seek "+strconv.Quote(x.key)+" "+strconv.FormatUint(x.seq, 10), c, ok, should)
		}
	}
}

func TestAtEachCell(t *testing.T) { // P8.2, P8.3: at each restart, and beside it
	var l []api.Cell
	for i := range 150 {
		l = append(l, value("key"+strconv.Itoa(1000+i/2*2), uint64(300-i), "v"+strconv.Itoa(i)))
	}
	for _, restart := range []int{1, 2, 3, 7, 8, 16, 49, 50, 51, 63, 64} {
		for _, n := range []int{0, 1, 2, 3, restart, restart + 1, 100, 127, 128, 129, 150} {
			b := opened(t, restart, l[:n]...)
			for _, c := range l[:n] {
				for _, seq := range []uint64{c.Seq - 1, c.Seq, c.Seq + 1, 0, math.MaxUint64} {
					for _, key := range []string{c.Key, c.Key + "\x00", c.Key[:6]} {
						wantAsked(t, b, l[:n], key, seq)
					}
				}
			}
			if t.Failed() {
				t.Fatal(n, "cells by", restart)
			}
		}
	}
}

func TestScan(t *testing.T) { // P8.2
	l := some()
	keys := []string{"", "\x00", "a", "b", "b\x00", "ba", "baa", "bb", "bbb", "c", "d", "d\x00", "e", "f", "f\x00", "f\x00\x00", "g", "\xff", strings.Repeat("z", 300)}
	for restart := 1; restart <= 12; restart++ {
		b := opened(t, restart, l...)
		for _, from := range keys {
			for _, to := range keys {
				wantList(t, "Scan from "+strconv.Quote(from)+" to "+strconv.Quote(to), slices.Collect(b.Scan(from, to)), within(l, from, to))
			}
			if from != "" { // ranges that touch
				wantList(t, "two ranges", slices.AppendSeq(slices.Collect(b.Scan("", from)), b.Scan(from, "")), l)
			}
		}
	}
	b := opened(t, 3, l...)
	for _, x := range [][2]string{{"b", "b"}, {"d", "b"}, {"\xff", "\x00"}, {"g", ""}, {"", "\x00"}, {"", "b"}, {"c", "d"}, {"z", "a"}} {
		for range b.Scan(x[0], x[1]) {
			t.Error("cells in an empty range", x)
		}
	}
}

func TestScanLeft(t *testing.T) { // R5: left early, and begun anew
	l := some()
	for _, restart := range []int{1, 3, 64} {
		b := opened(t, restart, l...)
		all := b.Scan("", "")
		for n := range len(l) {
			var got []api.Cell
			for c := range all {
				got = append(got, c)
				if len(got) == n+1 {
					break
				}
			}
			wantList(t, "left", got, l[:n+1])
		}
		wantList(t, "anew", slices.Collect(all), l)
		wantList(t, "once more", slices.Collect(all), l)
		for range all { // one within another
			wantList(t, "within", slices.Collect(all), l)
		}
		calls := 0
		all(func(api.Cell) bool {
			calls++
			return false
		})
		want(t, "asked once", calls, 1)
		wantList(t, "nothing has changed", b.Cells(), l)
	}
}

func TestNumbers(t *testing.T) { // P8.2
	b := opened(t, 3, some()...)
	want(t, "Len", b.Len(), 11)
	want(t, "Restarts", b.Restarts(), 4)
	wantBytes(t, "Bytes", b.Bytes(), laid(some(), 3))
	none := opened(t, 3)
	want(t, "Len of none", none.Len(), 0)
	want(t, "Restarts of none", none.Restarts(), 0)
	wantBytes(t, "Bytes of none", none.Bytes(), seal(foot(3)))
	wantNothing(t, none)
}

// wantNothing is that there is no cell.
func wantNothing(t *testing.T, b *block.Block) {
	t.Helper()
	for _, key := range []string{"", "a", "\xff"} {
		for _, seq := range []uint64{0, 1, api.MaxSeq, math.MaxUint64} {
			wantAsked(t, b, nil, key, seq)
		}
		for range b.Scan(key, "") {
			t.Error("Scan goes over something")
		}
		for range b.Scan("", key) {
			t.Error("Scan goes over something")
		}
	}
	want(t, "Cells", len(b.Cells()), 0)
}

func TestNotOpened(t *testing.T) { // P8.2
	refused, _ := block.Open("no block")
	for _, b := range []*block.Block{nil, {}, new(block.Block), refused} {
		wantNothing(t, b)
		want(t, "Len", b.Len(), 0)
		want(t, "Restarts", b.Restarts(), 0)
		wantBytes(t, "Bytes", b.Bytes(), "")
	}
}

func TestAnswersAreNew(t *testing.T) { // R3
	b := opened(t, 2, some()...)
	one := b.Cells()
	two := b.Cells()
	all := one[:cap(one)]
	for i := range all {
		all[i] = api.Cell{Key: "spoilt"}
	}
	wantList(t, "another answer", two, some())
	wantList(t, "the block", b.Cells(), some())
	wantList(t, "Scan", slices.Collect(b.Scan("", "")), some())
}
