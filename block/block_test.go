package block_test

import (
	"encoding/binary"
	"hash/crc32"
	"math"
	"slices"
	"strconv"
	"strings"
	"testing"

	"atrium/api"
	"atrium/block"
)

// want fails the test, if what was told is not what should be.
func want[T comparable](t *testing.T, what string, got, should T) {
	t.Helper()
	if got != should {
		t.Errorf("%s: %v, not %v", what, got, should)
	}
}

// wantList is want of lists.
func wantList[T comparable](t *testing.T, what string, got, should []T) {
	t.Helper()
	if !slices.Equal(got, should) {
		t.Errorf("%s: %v, not %v", what, got, should)
	}
}

// wantBytes is want of bytes.
func wantBytes(t *testing.T, what string, got, should string) {
	t.Helper()
	if got != should {
		t.Errorf("%s: %.300x, not %.300x", what, got, should)
	}
}

// value and gone are cells.
func value(key string, seq uint64, value string) api.Cell {
	return api.Cell{Key: key, Seq: seq, Value: value}
}

func gone(key string, seq uint64) api.Cell {
	return api.Cell{Key: key, Seq: seq, Gone: true}
}

// seal is bytes with their check sum behind them.
func seal(body string) string {
	sum := crc32.Checksum([]byte(body), crc32.MakeTable(crc32.Castagnoli))
	return string(binary.BigEndian.AppendUint32([]byte(body), sum))
}

// foot is what stands between the cells and the check sum.
func foot(restart int, starts ...int) string {
	var b []byte
	for _, start := range starts {
		b = binary.BigEndian.AppendUint32(b, uint32(start))
	}
	b = binary.BigEndian.AppendUint32(b, uint32(len(starts)))
	return string(binary.BigEndian.AppendUint16(b, uint16(restart)))
}

// varint is a number in its shortest form.
func varint(n int) string {
	return string(binary.AppendUvarint(nil, uint64(n)))
}

// built is Build, which is to be OK.
func built(t *testing.T, restart int, l ...api.Cell) string {
	t.Helper()
	s, e := block.Build(l, restart)
	want(t, "Build", e, api.OK)
	return s
}

// opened is the block of a list.
func opened(t *testing.T, restart int, l ...api.Cell) *block.Block {
	t.Helper()
	b, e := block.Open(built(t, restart, l...))
	want(t, "Open", e, api.OK)
	return b
}

// refuseBuild is that Build tells why not, and no bytes.
func refuseBuild(t *testing.T, what string, l []api.Cell, restart int, why api.Errno) {
	t.Helper()
	s, e := block.Build(l, restart)
	want(t, what, e, why)
	wantBytes(t, what, s, "")
}

// bad is cells that may not be.
func bad() []api.Cell {
	key, long := strings.Repeat("k", api.MaxKey+1), strings.Repeat("v", api.MaxValue+1)
	return []api.Cell{
		{}, value("", 1, "v"), gone("", 1), value(key, 1, "v"), gone(key, 1), value("k", 1, long),
		value("k", api.MaxSeq+1, "v"), gone("k", api.MaxSeq+1), value("k", math.MaxUint64, "v"),
		{Key: "k", Seq: 1, Value: "v", Gone: true}, {Key: "k", Seq: 1, Value: "\x00", Gone: true},
	}
}

// unsorted is lists of cells that may be, but no block's.
func unsorted() [][]api.Cell {
	return [][]api.Cell{
		{value("b", 1, "x"), value("a", 1, "x")},
		{value("ab", 1, "x"), value("a", 1, "x")},
		{value("a", 1, "x"), value("a", 2, "x")},
		{value("a", 0, "x"), value("a", api.MaxSeq, "x")},
		{value("a", 1, "x"), value("a", 1, "x")},
		{value("a", 1, "x"), value("a", 1, "y")},
		{value("a", 1, "x"), gone("a", 1)},
		{gone("a", 0), gone("a", 0)},
		{value("\x80", 1, "x"), value("\x7f", 1, "x")},
		{value("a", 1, "x"), value("b", 1, "x"), value("a", 0, "x")},
		{value("a", 1, "x"), value("b", 2, "x"), value("b", 1, "x"), value("b", 1, "x")},
		{value("a", 1, "x"), value("c", 2, "x"), value("b", 9, "x"), value("d", 1, "x")},
		{value("b", 1, "x"), value("a", 1, "x"), value("c", 1, "x")},
	}
}

func TestCheck(t *testing.T) { // P8.1
	key, long := strings.Repeat("k", api.MaxKey), strings.Repeat("v", api.MaxValue)
	for _, l := range [][]api.Cell{
		nil, {}, {value("a", 1, "x")}, {gone("a", 0)}, {value("a", api.MaxSeq, "")}, {value(key, api.MaxSeq, long)},
		{value("a", 2, "x"), value("a", 1, "x")}, {value("a", api.MaxSeq, "x"), gone("a", 0)}, {value("a", 1, "x"), value("b", 2, "x")},
		{value("a", 1, "x"), value("ab", 1, "x")}, {value("\x00", 1, "x"), value("\x7f", 1, "x"), value("\x80", 1, "x"), value("\xff", 1, "x")},
		{value("a", 0, "x"), value("a\x00", 1, "x"), value("a\x00\x00", 1, "x")},
	} {
		want(t, "what may be a block's", block.Check(l), api.OK)
	}
	for _, c := range bad() {
		want(t, "alone", block.Check([]api.Cell{c}), api.ErrCell)
		want(t, "first", block.Check([]api.Cell{c, value("z", 1, "x")}), api.ErrCell)
		want(t, "last", block.Check([]api.Cell{value("a", 1, "x"), c}), api.ErrCell)
		want(t, "behind a wrong order", block.Check([]api.Cell{value("b", 1, "x"), value("a", 1, "x"), c}), api.ErrCell)
		want(t, "ahead of a wrong order", block.Check([]api.Cell{c, value("b", 1, "x"), value("a", 1, "x")}), api.ErrCell)
	}
	for _, l := range unsorted() {
		want(t, "a wrong order", block.Check(l), api.ErrSort)
	}
}

func TestBuildRefuses(t *testing.T) { // P8.1
	tooLong := fill(api.MaxBlock + 1)
	mixed := slices.Concat(tooLong, []api.Cell{{}})
	for _, restart := range []int{0, -1, -64, math.MinInt, api.MaxRestart + 1, 256, 65536, 65537, math.MaxInt} {
		for _, l := range [][]api.Cell{nil, {value("a", 1, "x")}, {{}}, unsorted()[0], tooLong} {
			refuseBuild(t, "restart "+strconv.Itoa(restart), l, restart, api.ErrArg)
		}
	}
	for _, restart := range []int{1, 2, api.MaxRestart} {
		for _, c := range bad() {
			refuseBuild(t, "a cell", []api.Cell{c}, restart, api.ErrCell)
			refuseBuild(t, "a cell and a wrong order", []api.Cell{value("b", 1, "x"), value("a", 1, "x"), c}, restart, api.ErrCell)
		}
		for _, l := range unsorted() {
			refuseBuild(t, "a wrong order", l, restart, api.ErrSort)
		}
		refuseBuild(t, "a cell, and too long", mixed, restart, api.ErrCell)
		refuseBuild(t, "alike, and too long", slices.Concat(tooLong, tooLong[len(tooLong)-1:]), restart, api.ErrSort)
		refuseBuild(t, "too long", tooLong, restart, api.ErrLong)
	}
}

// fill is a list whose block, of a restart that is not less than the list's length, has just so many bytes: keys share nothing, and the last value is as long as is needed.
func fill(size int) []api.Cell {
	var l []api.Cell
	left := size - 4 - 10
	for i := byte(1); left > 0; i++ {
		n := min(left-7, api.MaxValue) // shared, more, two bytes of the value's length, gone, Seq, the key
		if rest := left - 7 - n; rest > 0 && rest < 200 {
			n -= 300 // so that the last one's length has two bytes, too
		}
		l = append(l, value(string(i), 1, strings.Repeat("v", n)))
		left -= 7 + n
	}
	return l
}

func TestBuildAtMaxBlock(t *testing.T) { // P8.1
	for size := api.MaxBlock - 20; size <= api.MaxBlock+20; size++ {
		l := fill(size)
		want(t, "cells", len(l) <= api.MaxRestart, true)
		if size > api.MaxBlock {
			refuseBuild(t, strconv.Itoa(size)+" bytes", l, api.MaxRestart, api.ErrLong)
			continue
		}
		s := built(t, api.MaxRestart, l...)
		want(t, "bytes", len(s), size)
		b, e := block.Open(s)
		want(t, "Open", e, api.OK)
		wantList(t, "Cells", b.Cells(), l)
	}
	l := fill(api.MaxBlock)
	want(t, "cells", len(l), 64)
	refuseBuild(t, "a restart more", l, len(l)-1, api.ErrLong)
	refuseBuild(t, "restarts", l, 1, api.ErrLong)
}

func TestBuildManyCells(t *testing.T) { // P8.1: far too many
	var l []api.Cell
	for i := range 200000 {
		l = append(l, gone("k", uint64(200000-i)))
	}
	refuseBuild(t, "too many", l, 64, api.ErrLong)
	refuseBuild(t, "too many", l, 1, api.ErrLong)
	s := built(t, 64, l[200000-9000:]...)
	b, e := block.Open(s)
	want(t, "Open", e, api.OK)
	want(t, "Len", b.Len(), 9000)
}

func TestBuildNoCells(t *testing.T) { // P8.1
	for restart := 1; restart <= api.MaxRestart; restart++ {
		should := seal("\x00\x00\x00\x00\x00" + string([]byte{byte(restart)}))
		wantBytes(t, "nil", built(t, restart), should)
		wantBytes(t, "empty", built(t, restart, []api.Cell{}...), should)
	}
}

func TestBuildOneCell(t *testing.T) { // P8.1
	for _, x := range []struct {
		cell   api.Cell
		should string
	}{
		{value("a", 1, "x"), "\x00\x01\x01\x00\x01ax"},
		{value("a", 0, ""), "\x00\x01\x00\x00\x00a"},
		{gone("a", 0), "\x00\x01\x00\x01\x00a"},
		{gone("abc", 127), "\x00\x03\x00\x01\x7fabc"},
		{gone("abc", 128), "\x00\x03\x00\x01\x80\x01abc"},
		{value("abc", 300, "\x00\xff"), "\x00\x03\x02\x00\xac\x02abc\x00\xff"},
		{value("\x00\xff", api.MaxSeq, "v"), "\x00\x02\x01\x00\xff\xff\xff\xff\xff\xff\xff\x7f\x00\xffv"},
		{value(strings.Repeat("k", 127), 1, strings.Repeat("v", 127)), "\x00\x7f\x7f\x00\x01" + strings.Repeat("k", 127) + strings.Repeat("v", 127)},
		{value(strings.Repeat("k", 128), 1, strings.Repeat("v", 128)), "\x00\x80\x01\x80\x01\x00\x01" + strings.Repeat("k", 128) + strings.Repeat("v", 128)},
		{value("k", 1, strings.Repeat("v", 1024)), "\x00\x01\x80\x08\x00\x01k" + strings.Repeat("v", 1024)},
	} {
		for _, restart := range []int{1, 2, 64} {
			s := built(t, restart, x.cell)
			wantBytes(t, "one cell", s, seal(x.should+foot(restart, 0)))
			b, e := block.Open(s)
			want(t, "Open", e, api.OK)
			wantList(t, "Cells", b.Cells(), []api.Cell{x.cell})
			want(t, "Restarts", b.Restarts(), 1)
		}
	}
}

func TestBuildShares(t *testing.T) { // P8.1: what is shared with the key ahead
	long := strings.Repeat("k", 128)
	for _, x := range []struct {
		first, second string
		shared        int
	}{
		{"a", "b", 0}, {"a", "ab", 1}, {"ab", "ac", 1}, {"abc", "abd", 2}, {"abc", "b", 0}, {"abcd", "abce", 3}, {"abc", "abcdef", 3},
		{"abxab", "abyab", 2}, {"\x00", "\x00\x00", 1}, {"\xfe", "\xff", 0}, {long[:127], long, 127}, {long[:127] + "j", long, 127}, {"j" + long[:127], long, 0},
	} {
		rest := x.second[x.shared:]
		one := "\x00" + varint(len(x.first)) + "\x01\x00\x05" + x.first + "v"
		two := varint(x.shared) + varint(len(rest)) + "\x01\x00\x09" + rest + "w"
		whole := "\x00" + varint(len(x.second)) + "\x01\x00\x09" + x.second + "w"
		l := []api.Cell{value(x.first, 5, "v"), value(x.second, 9, "w")}
		wantBytes(t, "behind it", built(t, 2, l...), seal(one+two+foot(2, 0)))
		wantBytes(t, "at a restart", built(t, 1, l...), seal(one+whole+foot(1, 0, len(one))))
	}
	for _, key := range []string{"a", "ab", long} {
		one := "\x00" + varint(len(key)) + "\x01\x00\x09" + key + "v"
		two := varint(len(key)) + "\x00\x00\x01\x05"
		whole := "\x00" + varint(len(key)) + "\x00\x01\x05" + key
		l := []api.Cell{value(key, 9, "v"), gone(key, 5)}
		wantBytes(t, "another version", built(t, 2, l...), seal(one+two+foot(2, 0)))
		wantBytes(t, "another version at a restart", built(t, 1, l...), seal(one+whole+foot(1, 0, len(one))))
	}
}

func TestBuildRestarts(t *testing.T) { // P8.1: which cells are restarts
	var l []api.Cell
	for i := range 200 {
		l = append(l, value("key"+strconv.Itoa(1000+i), uint64(i), "v"))
	}
	for restart := 1; restart <= api.MaxRestart; restart++ {
		for _, n := range []int{1, restart - 1, restart, restart + 1, 2*restart - 1, 2 * restart, 2*restart + 1, 3*restart + 1} {
			s := built(t, restart, l[:n]...)
			wantBytes(t, "Build", s, laid(l[:n], restart))
			b, e := block.Open(s)
			want(t, "Open", e, api.OK)
			want(t, "Len", b.Len(), n)
			want(t, "Restarts", b.Restarts(), (n+restart-1)/restart)
			wantList(t, "Cells", b.Cells(), l[:n])
			wantBytes(t, "Bytes", b.Bytes(), s)
		}
	}
}

func TestArgumentsStay(t *testing.T) { // R3: also what lies behind a list's end
	l := []api.Cell{value("a", 2, "x"), value("a", 1, "y"), gone("b", 1), value("a", 9, "behind")}
	was := slices.Clone(l)
	block.Check(l[:3])
	block.Check(l)
	block.Build(l[:3], 2)
	block.Build(l, 2)
	wantList(t, "the list", l, was)
}

func TestArgumentsAreNotKept(t *testing.T) { // R3
	l := []api.Cell{value("a", 2, "x"), value("a", 1, "y"), gone("b", 1)}
	was := slices.Clone(l)
	s := built(t, 2, l...)
	b, _ := block.Open(s)
	for i := range l {
		l[i] = api.Cell{}
	}
	wantList(t, "Cells", b.Cells(), was)
}

func TestExamples(t *testing.T) { // the chapter's example
	l := []api.Cell{value("ab", 7, "x"), value("abc", 5, "y")}
	body := "\x00\x02\x01\x00\x07\x61\x62\x78" + "\x02\x01\x01\x00\x05\x63\x79" + "\x00\x00\x00\x00" + "\x00\x00\x00\x01" + "\x00\x02"
	wantBytes(t, "Build", built(t, 2, l...), seal(body))
	b, e := block.Open(seal(body))
	want(t, "Open", e, api.OK)
	wantList(t, "Cells", b.Cells(), l)
}
