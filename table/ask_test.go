package table_test

import (
	"math"
	"slices"
	"strconv"
	"strings"
	"testing"

	"atrium/api"
	"atrium/filter"
	"atrium/table"
)

// wantGet is what a table tells of a place, held against what its list says, and against Scan.
func wantGet(t *testing.T, x *table.Table, l []api.Cell, key string, seq uint64) {
	t.Helper()
	should, is := api.Cell{}, false
	for _, c := range l {
		if !is && c.Key == key && c.Seq <= seq {
			should, is = c, true
		}
	}
	what := "Get " + strconv.Quote(key) + " " + strconv.FormatUint(seq, 10)
	c, ok := x.Get(key, seq)
	want(t, what, ok, is)
	want(t, what, c, should)
	for c := range x.Scan(key, key+"\x00") { // P9.6
		if c.Seq <= seq {
			want(t, what+" by Scan", should, c)
			want(t, what+" by Scan", is, true)
			return
		}
	}
	want(t, what+" by Scan", is, false)
}

// within is the cells of a list whose keys are in a range.
func within(l []api.Cell, from, to string) []api.Cell {
	var in []api.Cell
	for _, c := range l {
		if c.Key >= from && (to == "" || c.Key < to) {
			in = append(in, c)
		}
	}
	return in
}

// wantTable is that a table is that of a list and a shape.
func wantTable(t *testing.T, x *table.Table, l []api.Cell, s api.Shape) {
	t.Helper()
	want(t, "Count", x.Count(), len(l))
	want(t, "Blocks", x.Blocks(), len(grouped(l, s.Block)))
	want(t, "First", x.First(), l[0].Key)
	want(t, "Last", x.Last(), l[len(l)-1].Key)
	want(t, "Shape", x.Shape(), s)
	wantBytes(t, "Bytes", x.Bytes(), laid(l, s))
	wantList(t, "Scan", slices.Collect(x.Scan("", "")), l)
	for _, c := range l {
		want(t, "May", x.May(c.Key), true)
		wantGet(t, x, l, c.Key, c.Seq)
	}
}

// asked is shapes by which the lists of these tests have one block, few, and many.
func asked() []api.Shape {
	return []api.Shape{shape(64, 1, 1), shape(64, 2, 10), shape(65, 3, 10), shape(80, 1, 32), shape(100, 2, 4), shape(150, 64, 10), shape(400, 3, 10), shape(32768, 16, 10)}
}

// some is a list with several versions of its keys.
func some() []api.Cell {
	return []api.Cell{
		value("b", 9, "b9"), gone("b", 6), value("b", 3, "b3"), value("ba", 7, "ba7"), value("bb", 8, ""), gone("bb", 2),
		value("d", api.MaxSeq, "d"), value("d", 5, "d5"), value("d", 0, strings.Repeat("d", 70)), gone("f", 4), value("f\x00", 4, "x"),
	}
}

func TestNumbers(t *testing.T) { // P9.2
	for _, s := range asked() {
		for _, l := range [][]api.Cell{some(), many(1), many(2), many(50), many(100)[1:], {value("a", 1, "x")}, {gone("\x00", 0)}, {value("\xff", api.MaxSeq, "")}} {
			wantTable(t, opened(t, l, s), l, s)
		}
	}
	want(t, "blocks", opened(t, many(100), shape(64, 2, 10)).Blocks() > 50, true)
	want(t, "one block", opened(t, many(100), shape(32768, 2, 10)).Blocks(), 1)
}

func TestGet(t *testing.T) { // P9.3
	for _, s := range asked() {
		x := opened(t, some(), s)
		for _, y := range []struct {
			key    string
			seq    uint64
			should api.Cell // without a key: none
		}{
			{"b", 9, value("b", 9, "b9")}, {"b", 10, value("b", 9, "b9")}, {"b", math.MaxUint64, value("b", 9, "b9")},
			{"b", 8, gone("b", 6)}, {"b", 6, gone("b", 6)}, {"b", 5, value("b", 3, "b3")}, {"b", 3, value("b", 3, "b3")}, {"b", 2, api.Cell{}}, {"b", 0, api.Cell{}},
			{"bb", 1, api.Cell{}}, {"bb", 7, gone("bb", 2)}, {"bb", 8, value("bb", 8, "")}, {"ba", 6, api.Cell{}}, {"ba", 7, value("ba", 7, "ba7")},
			{"d", api.MaxSeq, value("d", api.MaxSeq, "d")}, {"d", api.MaxSeq + 1, value("d", api.MaxSeq, "d")}, {"d", api.MaxSeq - 1, value("d", 5, "d5")},
			{"d", 4, value("d", 0, strings.Repeat("d", 70))}, {"d", 0, value("d", 0, strings.Repeat("d", 70))},
			{"", 9, api.Cell{}}, {"a", 9, api.Cell{}}, {"b\x00", 9, api.Cell{}}, {"bc", 9, api.Cell{}}, {"c", 9, api.Cell{}}, {"e", math.MaxUint64, api.Cell{}}, {"f", 3, api.Cell{}},
			{"f\x00", 4, value("f\x00", 4, "x")}, {"f\x00", 3, api.Cell{}}, {"f\x00\x00", 9, api.Cell{}}, {"g", 9, api.Cell{}}, {"\xff", 9, api.Cell{}},
			{strings.Repeat("z", 1000), 9, api.Cell{}}, {strings.Repeat("b", 129), 9, api.Cell{}},
		} {
			what := "Get " + strconv.Quote(y.key) + " " + strconv.FormatUint(y.seq, 10)
			c, ok := x.Get(y.key, y.seq)
			want(t, what, c, y.should)
			want(t, what, ok, y.should.Key != "")
		}
	}
}

func TestAtEachCell(t *testing.T) { // P9.3, P9.6: also at each block's first cell, and beside it
	lists := [][]api.Cell{many(40), some(), versions("k", 60), slices.Concat(versions("j", 9), versions("k", 40), versions("l", 9))}
	for _, l := range lists {
		for _, s := range asked() {
			x := opened(t, l, s)
			for _, c := range l {
				for _, seq := range []uint64{c.Seq - 1, c.Seq, c.Seq + 1, 0, math.MaxUint64} {
					for _, key := range []string{c.Key, c.Key + "\x00", c.Key[:len(c.Key)-1]} {
						wantGet(t, x, l, key, seq)
					}
				}
			}
			if t.Failed() {
				t.Fatal("of", s)
			}
		}
	}
}

func TestTwoBlocks(t *testing.T) { // P9.3: one key's versions in two blocks, and in many
	big := strings.Repeat("v", 60)
	l := []api.Cell{value("a", 5, big), value("k", 9, big), value("k", 5, big), gone("k", 2), value("z", 1, big)}
	x := opened(t, l, shape(64, 2, 10))
	want(t, "Blocks", x.Blocks(), 4)
	for _, y := range []struct {
		seq uint64
		at  int // among the list's; -1: none
	}{{math.MaxUint64, 1}, {10, 1}, {9, 1}, {8, 2}, {6, 2}, {5, 2}, {4, 3}, {2, 3}, {1, -1}, {0, -1}} {
		c, ok := x.Get("k", y.seq)
		should := api.Cell{}
		if y.at >= 0 {
			should = l[y.at]
		}
		want(t, "Get "+strconv.FormatUint(y.seq, 10), c, should)
		want(t, "Get "+strconv.FormatUint(y.seq, 10), ok, y.at >= 0)
	}
	wantList(t, "Scan", slices.Collect(x.Scan("k", "l")), l[1:4])
	wantList(t, "Scan up to it", slices.Collect(x.Scan("", "k")), l[:1])
	wantList(t, "Scan behind it", slices.Collect(x.Scan("k\x00", "")), l[4:])
}

func TestMay(t *testing.T) { // P9.3, P9.6: filter.May of its filter
	l := many(60)
	for _, s := range asked() {
		x := opened(t, l, s)
		f, _ := filter.Build(keysOf(l), s.Bits)
		no := 0
		for i := range 500 {
			key := "key" + strconv.Itoa(i)
			want(t, "May "+key, x.May(key), filter.May(f, key))
			if !x.May(key) {
				no++
			}
		}
		want(t, "some are told no", no > 100, true)
		for _, c := range l {
			want(t, "May of one that is there", x.May(c.Key), true)
		}
		for _, key := range []string{"", "\x00", "zzz", strings.Repeat("k", 1000)} {
			want(t, "May", x.May(key), filter.May(f, key))
		}
	}
}

func TestScan(t *testing.T) { // P9.3
	l := some()
	keys := []string{"", "\x00", "a", "b", "b\x00", "ba", "baa", "bb", "bbb", "c", "d", "d\x00", "e", "f", "f\x00", "f\x00\x00", "g", "\xff", strings.Repeat("z", 300)}
	for _, s := range asked() {
		x := opened(t, l, s)
		for _, from := range keys {
			for _, to := range keys {
				wantList(t, "Scan from "+strconv.Quote(from)+" to "+strconv.Quote(to), slices.Collect(x.Scan(from, to)), within(l, from, to))
			}
			if from != "" { // ranges that touch
				wantList(t, "two ranges", slices.AppendSeq(slices.Collect(x.Scan("", from)), x.Scan(from, "")), l)
			}
		}
		for _, y := range [][2]string{{"b", "b"}, {"d", "b"}, {"\xff", "\x00"}, {"g", ""}, {"", "\x00"}, {"", "b"}, {"c", "d"}, {"z", "a"}} {
			for range x.Scan(y[0], y[1]) {
				t.Error("cells in an empty range", y)
			}
		}
	}
}

func TestScanLeft(t *testing.T) { // R5: left early, and begun anew
	l := some()
	for _, s := range asked() {
		x := opened(t, l, s)
		all := x.Scan("", "")
		for n := range len(l) {
			var got []api.Cell
			for c := range all {
				got = append(got, c)
				if len(got) == n+1 {
					break
				}
			}
			wantList(t, "left", got, l[:n+1])
		}
		wantList(t, "anew", slices.Collect(all), l)
		wantList(t, "once more", slices.Collect(all), l)
		for range all { // one within another
			wantList(t, "within", slices.Collect(all), l)
		}
		calls := 0
		all(func(api.Cell) bool {
			calls++
			return false
		})
		want(t, "asked once", calls, 1)
		wantTable(t, x, l, s)
	}
}

func TestNotOpened(t *testing.T) { // P9.4
	refused, _ := table.Open([]byte("no table"))
	for _, x := range []*table.Table{nil, {}, new(table.Table), refused} {
		for _, key := range []string{"", "a", "\xff"} {
			for _, seq := range []uint64{0, 1, api.MaxSeq, math.MaxUint64} {
				wantGet(t, x, nil, key, seq)
			}
			want(t, "May", x.May(key), true)
			for range x.Scan(key, "") {
				t.Error("Scan goes over something")
			}
			for range x.Scan("", key) {
				t.Error("Scan goes over something")
			}
		}
		want(t, "Count", x.Count(), 0)
		want(t, "Blocks", x.Blocks(), 0)
		want(t, "First", x.First(), "")
		want(t, "Last", x.Last(), "")
		want(t, "Shape", x.Shape(), api.Shape{})
		want(t, "Bytes", len(x.Bytes()), 0)
	}
}
