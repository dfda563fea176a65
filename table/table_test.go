package table_test

import (
	"bytes"
	"encoding/hex"
	"math"
	"slices"
	"strconv"
	"strings"
	"testing"

	"atrium/api"
	"atrium/block"
	"atrium/filter"
	"atrium/table"
)

// want fails the test, if what was told is not what should be.
func want[T comparable](t *testing.T, what string, got, should T) {
	t.Helper()
	if got != should {
		t.Errorf("%s: %v, not %v", what, got, should)
	}
}

// wantList is want of lists.
func wantList[T comparable](t *testing.T, what string, got, should []T) {
	t.Helper()
	if !slices.Equal(got, should) {
		t.Errorf("%s: %.300v, not %.300v", what, got, should)
	}
}

// wantBytes is want of bytes.
func wantBytes(t *testing.T, what string, got, should []byte) {
	t.Helper()
	if !bytes.Equal(got, should) {
		t.Errorf("%s: %.300x, not %.300x", what, got, should)
	}
}

// value and gone are cells.
func value(key string, seq uint64, value string) api.Cell {
	return api.Cell{Key: key, Seq: seq, Value: value}
}

func gone(key string, seq uint64) api.Cell {
	return api.Cell{Key: key, Seq: seq, Gone: true}
}

// shape is a shape.
func shape(block, restart, bits int) api.Shape {
	return api.Shape{Block: block, Restart: restart, Bits: bits}
}

// built is Build, which is to be OK.
func built(t *testing.T, l []api.Cell, s api.Shape) []byte {
	t.Helper()
	b, e := table.Build(l, s)
	want(t, "Build", e, api.OK)
	return b
}

// opened is the table of a list.
func opened(t *testing.T, l []api.Cell, s api.Shape) *table.Table {
	t.Helper()
	x, e := table.Open(built(t, l, s))
	want(t, "Open", e, api.OK)
	return x
}

// refuseBuild is that Build tells why not, and no bytes.
func refuseBuild(t *testing.T, what string, l []api.Cell, s api.Shape, why api.Errno) {
	t.Helper()
	b, e := table.Build(l, s)
	want(t, what, e, why)
	want(t, what+": bytes", len(b), 0)
}

// shapes is shapes that may be, each field at its least and greatest value.
func shapes() []api.Shape {
	return []api.Shape{
		shape(64, 1, 1), shape(32768, 1, 1), shape(64, 64, 1), shape(64, 1, 32), shape(32768, 64, 32), shape(100, 2, 10), shape(4096, 16, 10),
		shape(65, 2, 2), shape(32767, 63, 31),
	}
}

// noShapes is shapes that may not be.
func noShapes() []api.Shape {
	l := []api.Shape{{}, shape(0, 0, 0), shape(-1, -1, -1), shape(63, 65, 33), shape(math.MaxInt, math.MaxInt, math.MaxInt)}
	for _, block := range []int{63, 32769, 0, -64, 65536, 1 << 20, 1<<32 + 64, math.MinInt, math.MaxInt} {
		l = append(l, shape(block, 1, 1), shape(block, 64, 32))
	}
	for _, restart := range []int{0, 65, -1, 128, 1<<16 + 1, 1<<32 + 1, math.MinInt, math.MaxInt} {
		l = append(l, shape(64, restart, 1), shape(32768, restart, 32))
	}
	for _, bits := range []int{0, 33, -1, 64, 1<<16 + 1, 1<<32 + 1, math.MinInt, math.MaxInt} {
		l = append(l, shape(64, 1, bits), shape(32768, 64, bits))
	}
	return l
}

// bad is cells that may not be.
func bad() []api.Cell {
	key, long := strings.Repeat("k", api.MaxKey+1), strings.Repeat("v", api.MaxValue+1)
	return []api.Cell{
		{}, value("", 1, "v"), gone("", 1), value(key, 1, "v"), gone(key, 1), value("k", 1, long),
		value("k", api.MaxSeq+1, "v"), gone("k", api.MaxSeq+1), value("k", math.MaxUint64, "v"),
		{Key: "k", Seq: 1, Value: "v", Gone: true}, {Key: "k", Seq: 1, Value: "\x00", Gone: true},
	}
}

// unsorted is lists of cells that may be, but do not rise.
func unsorted() [][]api.Cell {
	return [][]api.Cell{
		{value("b", 1, "x"), value("a", 1, "x")},
		{value("ab", 1, "x"), value("a", 1, "x")},
		{value("a", 1, "x"), value("a", 2, "x")},
		{value("a", 0, "x"), value("a", api.MaxSeq, "x")},
		{value("a", 1, "x"), value("a", 1, "x")},
		{value("a", 1, "x"), value("a", 1, "y")},
		{value("a", 1, "x"), gone("a", 1)},
		{value("\x80", 1, "x"), value("\x7f", 1, "x")},
		{value("a", 1, "x"), value("b", 1, "x"), value("a", 0, "x")},
		{value("a", 1, strings.Repeat("v", 200)), value("b", 1, strings.Repeat("v", 200)), value("b", 1, "x")}, // of two blocks
	}
}

func TestCheck(t *testing.T) { // P9.1
	for _, s := range shapes() {
		want(t, "what may be", table.Check(s), api.OK)
	}
	for _, s := range noShapes() {
		if e := table.Check(s); e != api.ErrArg {
			t.Error(s, "may not be:", e)
		}
	}
}

// tooMany is one cell more than a table may have; tooLong is cells of more bytes.
func tooMany() []api.Cell {
	return versions("k", api.MaxCells+1)
}

func tooLong() []api.Cell {
	var l []api.Cell
	for i := range 1200 {
		l = append(l, value("key"+strconv.Itoa(10000+i), 1, strings.Repeat("v", 1000)))
	}
	return l
}

// versions is so many versions of a key, without values.
func versions(key string, n int) []api.Cell {
	var l []api.Cell
	for i := range n {
		l = append(l, value(key, uint64(n-i), ""))
	}
	return l
}

func TestBuildRefuses(t *testing.T) { // P9.1
	many, long := tooMany(), tooLong()
	manyAndBad := slices.Concat([]api.Cell{{}}, many)
	manyAndWrong := slices.Clone(many)
	slices.Reverse(manyAndWrong)
	for _, s := range noShapes() {
		for _, l := range [][]api.Cell{nil, {}, {value("a", 1, "x")}, {{}}, unsorted()[0]} {
			refuseBuild(t, "a shape", l, s, api.ErrArg)
		}
	}
	for _, l := range [][]api.Cell{many, manyAndBad, manyAndWrong, long} {
		refuseBuild(t, "a shape, and too much", l, shape(63, 1, 1), api.ErrArg)
		refuseBuild(t, "a shape, and too much", l, shape(64, 65, 1), api.ErrArg)
		refuseBuild(t, "a shape, and too much", l, shape(64, 1, 33), api.ErrArg)
	}
	for _, s := range shapes() {
		refuseBuild(t, "too many", many, s, api.ErrLong)
		refuseBuild(t, "too many, and a cell", manyAndBad, s, api.ErrLong)
		refuseBuild(t, "too many, and a wrong order", manyAndWrong, s, api.ErrLong)
		refuseBuild(t, "nil", nil, s, api.ErrArg)
		refuseBuild(t, "none", []api.Cell{}, s, api.ErrArg)
		refuseBuild(t, "none, with room behind", many[:0], s, api.ErrArg)
		for _, c := range bad() {
			refuseBuild(t, "a cell", []api.Cell{c}, s, api.ErrCell)
			refuseBuild(t, "a cell behind", []api.Cell{value("a", 1, "x"), c}, s, api.ErrCell)
			refuseBuild(t, "a cell ahead of a wrong order", []api.Cell{c, value("z", 1, "x"), value("y", 1, "x")}, s, api.ErrCell)
			refuseBuild(t, "a cell behind a wrong order", []api.Cell{value("b", 1, "x"), value("a", 1, "x"), c}, s, api.ErrCell)
		}
		for _, l := range unsorted() {
			refuseBuild(t, "a wrong order", l, s, api.ErrOrder)
		}
		refuseBuild(t, "too long, and a cell", slices.Concat(long, []api.Cell{{}}), s, api.ErrCell)
		refuseBuild(t, "too long, and a wrong order", slices.Concat(long, long[:1]), s, api.ErrOrder)
		refuseBuild(t, "too long, and two alike", slices.Concat(long, long[len(long)-1:]), s, api.ErrOrder)
		refuseBuild(t, "too long", long, s, api.ErrLong)
	}
}

func TestBuildMaxCells(t *testing.T) { // P9.1, P9.5
	s := shape(32768, 64, 32)
	one := versions("k", api.MaxCells)
	var unlike []api.Cell
	for i := range api.MaxCells {
		unlike = append(unlike, gone(string([]byte{'k', byte(i >> 8), byte(i)}), 5))
	}
	for _, l := range [][]api.Cell{one, unlike, one[1:], unlike[1:]} {
		b := built(t, l, s)
		wantBytes(t, "Build", b, laid(l, s))
		x, e := table.Open(b)
		want(t, "Open", e, api.OK)
		want(t, "Count", x.Count(), len(l))
		wantList(t, "Scan", slices.Collect(x.Scan("", "")), l)
	}
	refuseBuild(t, "one more", slices.Concat(unlike, []api.Cell{gone("z", 5)}), s, api.ErrLong)
	for i := range unlike {
		unlike[i].Seq = 300 // a byte more each
	}
	p := laidGroups(grouped(unlike, 64), shape(64, 64, 32))
	want(t, "blocks have room", len(p.blocks) < api.MaxFile && len(p.bytes()) > api.MaxFile, true)
	refuseBuild(t, "the filter and the index have none", unlike, shape(64, 64, 32), api.ErrLong)
	refuseBuild(t, "blocks have no room", unlike, shape(64, 1, 1), api.ErrLong)
}

// full is cells whose table has just so many bytes: a block each, of which the last ones grow a byte at a time.
func full(size int, s api.Shape) []api.Cell {
	var l []api.Cell
	for i := range 1000 {
		l = append(l, value("key"+strconv.Itoa(10000+i), 1, strings.Repeat("v", 900)))
	}
	for at, need := len(l)-1, size-len(laid(l, s)); need > 0; at-- {
		n := min(need, api.MaxValue-900)
		l[at].Value += strings.Repeat("w", n)
		need -= n
	}
	return l
}

func TestBuildMaxFile(t *testing.T) { // P9.1
	for _, s := range []api.Shape{shape(64, 1, 1), shape(916, 64, 32)} {
		for _, more := range []int{-1, 0, 1, 2, 4, 8, 9, 36, 100} {
			size := api.MaxFile + more
			l := full(size, s)
			should := laid(l, s)
			want(t, "bytes", len(should), size)
			if size > api.MaxFile {
				refuseBuild(t, strconv.Itoa(size)+" bytes", l, s, api.ErrLong)
				refuseOpen(t, strconv.Itoa(size)+" bytes", should)
				continue
			}
			b := built(t, l, s)
			wantBytes(t, "Build", b, should)
			x, e := table.Open(b)
			want(t, "Open", e, api.OK)
			wantList(t, "Scan", slices.Collect(x.Scan("", "")), l)
		}
	}
}

// heavy is a cell that comes to so many bytes, with 16.
func heavy(key string, weight int) api.Cell {
	return value(key, 1, strings.Repeat("v", weight-16-len(key)))
}

// wantBlocks is which first keys a table's blocks have, of a list and a Block.
func wantBlocks(t *testing.T, l []api.Cell, block int, firsts ...string) {
	t.Helper()
	s := shape(block, 3, 10)
	b := built(t, l, s)
	wantBytes(t, "Build", b, laid(l, s))
	x, e := table.Open(b)
	want(t, "Open", e, api.OK)
	want(t, "Blocks", x.Blocks(), len(firsts))
	_, index := tornOf(b)
	var keys []string
	for _, row := range index {
		keys = append(keys, row.first)
	}
	wantList(t, "first keys", keys, firsts)
}

func TestBlockEnds(t *testing.T) { // the chapter's Words: a block is ended behind the cell with which it comes to Block or more
	two := func(a, b int) []api.Cell {
		return []api.Cell{heavy("a", a), heavy("b", b), heavy("c", 20), heavy("d", 20)}
	}
	wantBlocks(t, two(50, 50), 100, "a", "c")                                                  // just Block bytes
	wantBlocks(t, two(50, 49), 100, "a", "d")                                                  // one less
	wantBlocks(t, two(50, 51), 100, "a", "c")                                                  // one more
	wantBlocks(t, two(100, 50), 100, "a", "b")                                                 // one cell alone; the last block has less
	wantBlocks(t, two(99, 50), 100, "a", "c")                                                  //
	wantBlocks(t, two(1000, 1000), 100, "a", "b", "c")                                         // far more
	wantBlocks(t, []api.Cell{heavy("a", 64)}, 64, "a")                                         // none stands behind it
	wantBlocks(t, []api.Cell{heavy("a", 63), heavy("b", 17)}, 64, "a")                         //
	wantBlocks(t, []api.Cell{heavy("a", 64), heavy("b", 17)}, 64, "a", "b")                    //
	wantBlocks(t, []api.Cell{heavy("a", 32), heavy("b", 32), heavy("c", 17)}, 64, "a", "c")    //
	wantBlocks(t, []api.Cell{gone("a", 3), gone("a", 2), gone("a", 1)}, 64, "a")               // 51
	wantBlocks(t, []api.Cell{gone("k", 4), gone("k", 3), gone("k", 2), gone("k", 1)}, 64, "k") // 68
	wantBlocks(t, []api.Cell{gone("k", 5), gone("k", 4), gone("k", 3), gone("k", 2), gone("k", 1)}, 64, "k", "k")
	wantBlocks(t, []api.Cell{value("kk", 5, strings.Repeat("v", 46)), value("kk", 4, "x"), gone("l", 1)}, 64, "kk", "kk") // the key counts
	wantBlocks(t, []api.Cell{value("kk", 5, strings.Repeat("v", 45)), value("kk", 4, "x"), gone("l", 1)}, 64, "kk", "l")
	var l []api.Cell
	for i := range 40 {
		l = append(l, heavy(string([]byte{'a', byte(i)}), 1024))
	}
	wantBlocks(t, l, 32768, "a\x00", "a\x20")
	l[31] = heavy(l[31].Key, 1023)
	wantBlocks(t, l, 32768, "a\x00", "a\x21")
	wantBlocks(t, l, 32767, "a\x00", "a\x20")
}

func TestBuildLongestBlocks(t *testing.T) { // a block of the greatest Block is no block too long, however much its cells have beside their bytes
	key := strings.Repeat("k", 125)
	for _, restart := range []int{1, 64} {
		var small, large []api.Cell
		for i := range 4000 {
			c := value(string([]byte{byte(i >> 8), byte(i)}), api.MaxSeq, "")
			small = append(small, c)
			large = append(large, value(key+"k"+c.Key, api.MaxSeq, strings.Repeat("v", i%1025)))
		}
		for _, l := range [][]api.Cell{small, large[:500]} {
			s := shape(32768, restart, 32)
			wantBytes(t, "Build", built(t, l, s), laid(l, s))
			want(t, "Count", opened(t, l, s).Count(), len(l))
		}
	}
}

func TestBuildBytes(t *testing.T) { // the chapter's Words, byte by byte, worked out apart from the program
	l := []api.Cell{value("ka", 9, strings.Repeat("x", 46)), gone("ka", 5), value("kb", 300, "y")}
	should, e := hex.DecodeString(
		"00022e00096b61" + strings.Repeat("78", 46) + "00000000" + "00000001" + "0002" + "04aed28a" +
			"00020001056b61" + "01010100ac026279" + "00000000" + "00000001" + "0002" + "32950850" +
			"0001400012801f20" + "06" +
			"026b61" + "00" + "43" + "026b61" + "43" + "1d" +
			"00000060" + "00000009" + "00000069" + "0000000a" + "00000003" + "00000040" + "0002" + "000a" + "840c22b5" + "4154424c")
	want(t, "the text", e, nil)
	wantBytes(t, "Build", built(t, l, shape(64, 2, 10)), should)
	x, no := table.Open(should)
	want(t, "Open", no, api.OK)
	wantTable(t, x, l, shape(64, 2, 10))
}

func TestFilterOfUnlikeKeys(t *testing.T) { // the chapter's Words: each key once
	var l []api.Cell
	var keys []string
	for i := range 30 {
		key := "key" + strconv.Itoa(100+i)
		keys = append(keys, key)
		for seq := range i%4 + 1 {
			l = append(l, value(key, uint64(9-seq), "x"))
		}
	}
	for bits := 1; bits <= api.MaxBits; bits++ {
		should, _ := filter.Build(keys, bits)
		parts, _ := tornOf(built(t, l, shape(64, 2, bits)))
		wantBytes(t, "the filter", parts.filter, should)
	}
}

func TestBlocksAreBlocks(t *testing.T) { // the chapter's Words: each block by the shape's Restart
	l := many(100)
	for _, restart := range []int{1, 2, 3, 16, 64} {
		b := built(t, l, shape(200, restart, 10))
		_, index := tornOf(b)
		var got []api.Cell
		for _, row := range index {
			x, e := block.Open(string(b[row.at : row.at+row.size]))
			want(t, "a block", e, api.OK)
			want(t, "Restarts", x.Restarts(), (x.Len()+restart-1)/restart)
			got = append(got, x.Cells()...)
		}
		wantList(t, "cells", got, l)
	}
}

func TestArgumentsStay(t *testing.T) { // R3: also what lies behind a list's end
	l := many(50)
	was := slices.Clone(l)
	for n := range l {
		table.Build(l[:n], shape(64, 2, 10))
	}
	wantList(t, "the list", l, was)
	b := built(t, l, shape(64, 2, 10))
	wasBytes := bytes.Clone(b)
	for n := range b {
		table.Open(b[:n])
	}
	x, _ := table.Open(b)
	x.Get("key120", 5)
	x.May("key120")
	x.Bytes()
	wantBytes(t, "the bytes", b, wasBytes)
}

func TestArgumentsAreNotKept(t *testing.T) { // R3; P9.2: b is copied
	l := many(50)
	was := slices.Clone(l)
	s := shape(100, 2, 10)
	b := built(t, l, s)
	for i := range l {
		l[i] = api.Cell{}
	}
	wantBytes(t, "Build", b, laid(was, s))
	wasBytes := bytes.Clone(b)
	x, e := table.Open(b)
	want(t, "Open", e, api.OK)
	for i := range b[:cap(b)] {
		b[:cap(b)][i] ^= 0xff
	}
	wantTable(t, x, was, s)
	wantBytes(t, "Bytes", x.Bytes(), wasBytes)
}

func TestAnswersAreNew(t *testing.T) { // R3: also an answer's spare room
	l := many(50)
	s := shape(100, 2, 10)
	one, two := built(t, l, s), built(t, l, s)
	spoil(one)
	wantBytes(t, "another answer", two, laid(l, s))
	x, _ := table.Open(two)
	one, three := x.Bytes(), x.Bytes()
	spoil(one)
	spoil(append(one, "behind"...))
	wantBytes(t, "another answer", three, two)
	wantBytes(t, "Bytes", x.Bytes(), two)
	wantTable(t, x, l, s)
}

// spoil turns all bytes of a list, and of the room behind it.
func spoil(b []byte) {
	for i := range b[:cap(b)] {
		b[:cap(b)][i] ^= 0xff
	}
}

func TestExamples(t *testing.T) { // the chapter's example
	for _, s := range shapes() {
		x := opened(t, []api.Cell{value("k", 9, "x"), gone("k", 5)}, s)
		c, ok := x.Get("k", 9)
		want(t, "Get 9", c, value("k", 9, "x"))
		want(t, "Get 9", ok, true)
		c, ok = x.Get("k", 8)
		want(t, "Get 8", c, gone("k", 5))
		want(t, "Get 8", ok, true)
		c, ok = x.Get("k", 4)
		want(t, "Get 4", c, api.Cell{})
		want(t, "Get 4", ok, false)
	}
}
