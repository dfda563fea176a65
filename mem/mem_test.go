package mem_test

import (
	"math"
	"slices"
	"strconv"
	"strings"
	"testing"

	"atrium/api"
	"atrium/mem"
)

// want fails the test, if what was told is not what should be.
func want[T comparable](t *testing.T, what string, got, should T) {
	t.Helper()
	if got != should {
		t.Errorf("%s: %v, not %v", what, got, should)
	}
}

// wantList is want of lists.
func wantList[T comparable](t *testing.T, what string, got, should []T) {
	t.Helper()
	if !slices.Equal(got, should) {
		t.Errorf("%s: %v, not %v", what, got, should)
	}
}

// value and gone are cells.
func value(key string, seq uint64, value string) api.Cell {
	return api.Cell{Key: key, Seq: seq, Value: value}
}

func gone(key string, seq uint64) api.Cell {
	return api.Cell{Key: key, Seq: seq, Gone: true}
}

// of is a Mem with these cells, of heights from 1 on.
func of(t *testing.T, l ...api.Cell) *mem.Mem {
	t.Helper()
	m := mem.New()
	for i, c := range l {
		want(t, "Put", m.Put(c, 1+i%api.MaxHeight), api.OK)
	}
	return m
}

// scanned is what Scan goes over.
func scanned(m *mem.Mem, from, to string) []api.Cell {
	return slices.Collect(m.Scan(from, to))
}

// wantMem is what a Mem should have.
func wantMem(t *testing.T, what string, m *mem.Mem, cells []api.Cell, levels []int) {
	t.Helper()
	wantList(t, what+": Cells", m.Cells(), cells)
	wantList(t, what+": Scan", scanned(m, "", ""), cells)
	wantList(t, what+": Levels", m.Levels(), levels)
	want(t, what+": Len", m.Len(), len(cells))
	size := 0
	for _, c := range cells {
		size += len(c.Key) + len(c.Value) + 16
	}
	want(t, what+": Size", m.Size(), size)
}

func TestCheck(t *testing.T) { // P6.1
	key, long := strings.Repeat("k", api.MaxKey), strings.Repeat("v", api.MaxValue)
	for _, c := range []api.Cell{
		value("k", 1, "v"), value("k", 1, ""), value("k", 0, "v"), value("k", api.MaxSeq, "v"),
		value(key, 1, "v"), value("k", 1, long), value(key, api.MaxSeq, long), gone("k", 1), gone(key, api.MaxSeq), gone("k", 0),
		value("\x00", 1, "\x00\xff"), value("\xff", 1, "v"),
	} {
		want(t, "what may be", mem.Check(c), api.OK)
	}
	for _, c := range refused() {
		want(t, "what may not be", mem.Check(c), api.ErrCell)
	}
}

// refused is cells that may not be.
func refused() []api.Cell {
	key, long := strings.Repeat("k", api.MaxKey+1), strings.Repeat("v", api.MaxValue+1)
	return []api.Cell{
		{}, value("", 1, "v"), gone("", 1), value(key, 1, "v"), gone(key, 1), value(strings.Repeat(key, 9), 1, ""),
		value("k", 1, long), value("k", 1, strings.Repeat(long, 9)),
		value("k", api.MaxSeq+1, "v"), gone("k", api.MaxSeq+1), value("k", math.MaxUint64, "v"),
		{Key: "k", Seq: 1, Value: "v", Gone: true}, {Key: "k", Seq: 1, Value: "\x00", Gone: true}, {Key: "k", Seq: 1, Value: long, Gone: true},
		value("", math.MaxUint64, long),
	}
}

func TestNew(t *testing.T) { // P6.1
	m := mem.New()
	wantMem(t, "new", m, nil, nil)
	_, ok := m.Get("a", math.MaxUint64)
	want(t, "Get", ok, false)
	_, ok = m.Get("", 0)
	want(t, "Get", ok, false)
	want(t, "another one", m.Put(value("a", 1, "x"), 1), api.OK)
	wantMem(t, "each is its own", mem.New(), nil, nil)
}

func TestPut(t *testing.T) { // P6.1, P6.3
	m := mem.New()
	want(t, "Put", m.Put(value("b", 2, "y"), 1), api.OK)
	wantMem(t, "one", m, []api.Cell{value("b", 2, "y")}, []int{1})
	want(t, "Put", m.Put(value("a", 1, ""), 3), api.OK)
	wantMem(t, "ahead of it", m, []api.Cell{value("a", 1, ""), value("b", 2, "y")}, []int{2, 1, 1})
	want(t, "Put", m.Put(gone("c", 0), 2), api.OK)
	wantMem(t, "behind it", m, []api.Cell{value("a", 1, ""), value("b", 2, "y"), gone("c", 0)}, []int{3, 2, 1})
	want(t, "Put", m.Put(value("b", 3, "z"), 1), api.OK)
	want(t, "Put", m.Put(gone("b", 1), 1), api.OK)
	wantMem(t, "a key's others", m, []api.Cell{value("a", 1, ""), value("b", 3, "z"), value("b", 2, "y"), gone("b", 1), gone("c", 0)}, []int{5, 2, 1})
	want(t, "one Seq of two keys", m.Put(value("a", 2, "x"), 1), api.OK)
	want(t, "Len", m.Len(), 6)
}

func TestPutAtTheLimits(t *testing.T) { // P6.1, P6.3
	key, long := strings.Repeat("k", api.MaxKey), strings.Repeat("v", api.MaxValue)
	m := mem.New()
	want(t, "Put", m.Put(value(key, api.MaxSeq, long), api.MaxHeight), api.OK)
	want(t, "Put", m.Put(value(key, api.MaxSeq-1, ""), 1), api.OK)
	want(t, "Put", m.Put(gone(key, 0), 1), api.OK)
	wantMem(t, "at the limits", m, []api.Cell{value(key, api.MaxSeq, long), value(key, api.MaxSeq-1, ""), gone(key, 0)}, []int{3, 1, 1, 1, 1, 1, 1, 1, 1, 1, 1, 1})
	want(t, "Size", m.Size(), 3*128+1024+48)
	wantList(t, "Scan", scanned(m, key, ""), m.Cells())
}

func TestPutRefuses(t *testing.T) { // P6.1, R2
	m := of(t, value("a", 1, "x"), gone("b", 2))
	cells, levels := m.Cells(), m.Levels()
	for _, c := range refused() {
		for _, height := range []int{1, 12, 0, 13, -1} { // ahead of a height that may not be
			want(t, "a cell that may not be", m.Put(c, height), api.ErrCell)
		}
	}
	for _, height := range []int{0, -1, math.MinInt, api.MaxHeight + 1, math.MaxInt} {
		want(t, "a height", m.Put(value("c", 1, ""), height), api.ErrArg)
		want(t, "a height, of a cell that is there", m.Put(value("a", 1, "x"), height), api.ErrArg)
	}
	for _, height := range []int{1, 2, 12} {
		want(t, "the same again", m.Put(value("a", 1, "x"), height), api.ErrTwice)
		want(t, "another Value", m.Put(value("a", 1, "y"), height), api.ErrTwice)
		want(t, "gone there", m.Put(gone("a", 1), height), api.ErrTwice)
		want(t, "the same gone", m.Put(gone("b", 2), height), api.ErrTwice)
		want(t, "a Value where it is gone", m.Put(value("b", 2, "z"), height), api.ErrTwice)
	}
	wantMem(t, "nothing has changed", m, cells, levels)
	want(t, "behind refusals", m.Put(value("c", 1, ""), 1), api.OK)
}

func TestPutTwiceAmongMany(t *testing.T) { // P6.1
	m := mem.New()
	for i := range 200 {
		want(t, "Put", m.Put(value(strconv.Itoa(i*77%200), uint64(i%7), ""), 1+i%12), api.OK)
	}
	cells, levels := m.Cells(), m.Levels()
	for _, c := range cells {
		for _, height := range []int{1, 5, 12} {
			want(t, "Put", m.Put(c, height), api.ErrTwice)
		}
	}
	wantMem(t, "nothing has changed", m, cells, levels)
}

// wantGet is what Get should tell; nil: false.
func wantGet(t *testing.T, m *mem.Mem, key string, seq uint64, should *api.Cell) {
	t.Helper()
	c, ok := m.Get(key, seq)
	what := "Get " + strconv.Quote(key) + " " + strconv.FormatUint(seq, 10)
	want(t, what, ok, should != nil)
	if should == nil {
		should = &api.Cell{}
	}
	want(t, what, c, *should)
}

func TestGet(t *testing.T) { // P6.2
	x, y, z, w := value("b", 2, "x"), gone("b", 5), value("b", api.MaxSeq, "z"), value("d", 0, "")
	m := of(t, y, w, x, z)
	for seq, c := range map[uint64]*api.Cell{
		0: nil, 1: nil, 2: &x, 3: &x, 4: &x, 5: &y, 6: &y, api.MaxSeq - 1: &y, api.MaxSeq: &z, api.MaxSeq + 1: &z, math.MaxUint64: &z,
	} {
		wantGet(t, m, "b", seq, c)
	}
	for _, seq := range []uint64{0, 1, 9, math.MaxUint64} {
		wantGet(t, m, "d", seq, &w)
		for _, key := range []string{"", "a", "b\x00", "ba", "c", "d\x00", "e", "\xff", "B", strings.Repeat("b", 129)} {
			wantGet(t, m, key, seq, nil)
		}
	}
}

func TestOrderIsOfBytes(t *testing.T) { // P6.3
	keys := []string{"\x00", "\x00\x00", "\x01", "A", "a", "a\x00", "a\x00\x00", "aa", "ab", "b", "é", "\xff", "\xff\x00", "\xff\xff"}
	slices.Sort(keys)
	m := mem.New()
	for i := range keys {
		k := keys[i*5%len(keys)]
		want(t, "Put", m.Put(value(k, 1, k), 1+i%3), api.OK)
		want(t, "Put", m.Put(value(k, 2, k), 1+i%2), api.OK)
	}
	var should []api.Cell
	for _, k := range keys {
		should = append(should, value(k, 2, k), value(k, 1, k))
	}
	wantList(t, "Cells", m.Cells(), should)
}

func TestScan(t *testing.T) { // P6.3
	a3, a1, b2, ba, c9 := gone("a", 3), value("a", 1, "x"), value("b", 2, "y"), value("ba", 4, "z"), value("c", 9, "")
	m := of(t, b2, c9, a1, ba, a3)
	for _, x := range []struct {
		from, to string
		should   []api.Cell
	}{
		{"", "", []api.Cell{a3, a1, b2, ba, c9}}, {"", "zz", []api.Cell{a3, a1, b2, ba, c9}}, {"\x00", "", []api.Cell{a3, a1, b2, ba, c9}},
		{"a", "b", []api.Cell{a3, a1}}, {"a", "a\x00", []api.Cell{a3, a1}}, {"", "b", []api.Cell{a3, a1}}, {"a", "ba", []api.Cell{a3, a1, b2}},
		{"a\x00", "c", []api.Cell{b2, ba}}, {"b", "", []api.Cell{b2, ba, c9}}, {"b", "c", []api.Cell{b2, ba}}, {"b", "c\x00", []api.Cell{b2, ba, c9}},
		{"bb", "c", nil}, {"c", "d", []api.Cell{c9}}, {"c", "", []api.Cell{c9}}, {"c\x00", "", nil}, {"d", "", nil}, {"\xff", "", nil},
		{"a", "a", nil}, {"b", "a", nil}, {"c", "a", nil}, {"", "a", nil}, {"", "\x00", nil}, {"zz", "a", nil}, {"b", "b", nil},
		{strings.Repeat("a", 200), strings.Repeat("b", 200), []api.Cell{b2, ba}},
	} {
		wantList(t, "Scan "+strconv.Quote(x.from)+" "+strconv.Quote(x.to), scanned(m, x.from, x.to), x.should)
	}
}

func TestScanLeftEarly(t *testing.T) { // P6.3, R5
	m := mem.New()
	for i := range 50 {
		m.Put(value(strconv.Itoa(100+i), 1, ""), 1+i%4)
	}
	seq := m.Scan("110", "140")
	for most := 1; most <= 30; most++ {
		n := 0
		for c := range seq {
			want(t, "a cell", c.Key, strconv.Itoa(110+n))
			if n++; n == most {
				break
			}
		}
		want(t, "left behind", n, most)
	}
	for range seq {
		wantList(t, "within another one", slices.Collect(seq), scanned(m, "110", "140"))
	}
	want(t, "all of them", len(slices.Collect(seq)), 30)
}

func TestScanTwice(t *testing.T) { // P6.3, R5: as they are when it is ranged over
	m := of(t, value("b", 1, ""))
	seq := m.Scan("a", "c")
	wantList(t, "first", slices.Collect(seq), []api.Cell{value("b", 1, "")})
	m.Put(value("a", 1, "x"), 12)
	m.Put(gone("b", 2), 1)
	m.Put(value("c", 1, ""), 1)
	wantList(t, "with a Put between", slices.Collect(seq), []api.Cell{value("a", 1, "x"), gone("b", 2), value("b", 1, "")})
	empty := mem.New()
	seq = empty.Scan("", "")
	wantList(t, "none", slices.Collect(seq), nil)
	empty.Put(value("c", 1, ""), 1)
	wantList(t, "one", slices.Collect(seq), []api.Cell{value("c", 1, "")})
}

func TestScanLooksOnce(t *testing.T) { // P6.3, R5: one look ahead of the first
	m := of(t, value("b", 5, ""), value("d", 5, ""), value("f", 5, ""))
	should := m.Cells()
	var got []api.Cell
	seq := m.Scan("", "")
	for c := range seq {
		got = append(got, c)
		for _, key := range []string{"a", "b", "c", "d", "e", "f", "g"} {
			m.Put(value(key, uint64(5+len(got)), ""), 1+len(got))
			m.Put(value(key, uint64(5-len(got)), ""), 1+len(got))
		}
	}
	wantList(t, "what is put meanwhile is not seen", got, should)
	want(t, "it is there", m.Len(), 3+3*14)
	wantList(t, "and seen by the next one", slices.Collect(seq), m.Cells())

	m = of(t, value("b", 5, ""))
	n := 0
	for range m.Scan("a", "c") { // put always just behind the place: it ends all the same
		n++
		for i := range 40 {
			m.Put(value("b"+strconv.Itoa(i), 1, ""), 1+i%12)
		}
	}
	want(t, "it ends", n, 1)

	m = of(t, value("b", 5, ""), value("c", 1, ""))
	n = 0
	for range m.Scan("a", "c") {
		n++
		m.Put(value("c", 2, ""), 1)
		m.Put(value("bb", 2, ""), 1)
	}
	want(t, "to is still the end", n, 1)
}

func TestLevels(t *testing.T) { // P6.3, P6.5
	m := mem.New()
	heights := []int{1, 12, 3, 3, 1, 7}
	for i, h := range heights {
		want(t, "Put", m.Put(value(strconv.Itoa(i), 1, ""), h), api.OK)
	}
	wantList(t, "Levels", m.Levels(), []int{6, 4, 4, 2, 2, 2, 2, 1, 1, 1, 1, 1})
	wantList(t, "of one", of(t, value("a", 1, "")).Levels(), []int{1})
	m = mem.New()
	m.Put(value("a", 1, ""), 4)
	wantList(t, "of one that is high", m.Levels(), []int{1, 1, 1, 1})
}

func TestFork(t *testing.T) { // P6.4
	m := of(t, value("a", 1, "x"), gone("a", 3), value("b", 2, "y"))
	cells, levels := m.Cells(), m.Levels()
	f := m.Fork()
	wantMem(t, "the same", f, cells, levels)
	want(t, "Put", m.Put(value("c", 1, "m"), 1), api.OK)
	want(t, "Put", m.Put(value("a", 2, "m"), 9), api.OK)
	wantMem(t, "what is done to the first", f, cells, levels)
	want(t, "Put", f.Put(value("c", 1, "f"), 12), api.OK) // the same place on both sides
	want(t, "Put", f.Put(value("0", 2, "f"), 2), api.OK)
	wantMem(t, "the fork", f, []api.Cell{value("0", 2, "f"), gone("a", 3), value("a", 1, "x"), value("b", 2, "y"), value("c", 1, "f")}, []int{5, 4, 2, 1, 1, 1, 1, 1, 1, 1, 1, 1})
	wantMem(t, "the first", m, []api.Cell{gone("a", 3), value("a", 2, "m"), value("a", 1, "x"), value("b", 2, "y"), value("c", 1, "m")}, []int{5, 3, 2, 1, 1, 1, 1, 1, 1})
	want(t, "what was there", f.Put(value("a", 1, "x"), 1), api.ErrTwice)
	wantGet(t, f, "a", 2, &api.Cell{Key: "a", Seq: 1, Value: "x"})
	wantMem(t, "a fork's fork", f.Fork(), f.Cells(), f.Levels())
	wantMem(t, "of none", mem.New().Fork(), nil, nil)
}

func TestForkWhileScanned(t *testing.T) { // P6.4, R5
	m := of(t, value("a", 1, ""), value("b", 1, ""))
	seq := m.Scan("", "")
	f := m.Fork()
	f.Put(value("c", 1, ""), 1)
	want(t, "of the first", len(slices.Collect(seq)), 2)
	m.Put(value("d", 1, ""), 1)
	m.Put(value("e", 1, ""), 1)
	want(t, "of the first", len(slices.Collect(seq)), 4)
	want(t, "of the fork", len(scanned(f, "", "")), 3)
}

func TestClosed(t *testing.T) { // P6.4
	made := of(t, value("a", 1, "x"))
	copied := *made
	for what, m := range map[string]*mem.Mem{"nil": nil, "a Mem of nothing": {}, "new": new(mem.Mem), "a copy": &copied} {
		for _, c := range append(refused(), value("a", 2, "y"), value("a", 1, "x")) {
			for _, height := range []int{1, 0, 13} {
				want(t, what+": Put", m.Put(c, height), api.ErrClosed)
			}
		}
		wantGet(t, m, "a", 9, nil)
		wantList(t, what+": Scan", scanned(m, "", ""), nil)
		wantList(t, what+": Cells", m.Cells(), nil)
		want(t, what+": Len", m.Len(), 0)
		want(t, what+": Size", m.Size(), 0)
		wantList(t, what+": Levels", m.Levels(), nil)
		want(t, what+": Fork", m.Fork(), nil)
	}
	wantMem(t, "the one that was made", made, []api.Cell{value("a", 1, "x")}, []int{1})
}

func TestAnswersShareNothing(t *testing.T) { // R3
	m := of(t, value("a", 1, "x"), value("b", 2, "y"), value("c", 3, "z"))
	cells, levels := slices.Clone(m.Cells()), slices.Clone(m.Levels())
	l, n := m.Cells(), m.Levels()
	other := m.Cells()
	for i := range l[:cap(l)] {
		l[:cap(l)][i] = gone("turned", 1)
	}
	for i := range n[:cap(n)] {
		n[:cap(n)][i] = 99
	}
	wantList(t, "another answer", other, cells)
	wantMem(t, "what it keeps", m, cells, levels)
}

func TestWhatIsHandedInIsNotKept(t *testing.T) { // R3
	b := []byte("key")
	m := mem.New()
	m.Put(value(string(b), 1, string(b)), 1)
	seq := m.Scan(string(b), "")
	copy(b, "???")
	wantList(t, "the cell", slices.Collect(seq), []api.Cell{value("key", 1, "key")})
}

func TestExamples(t *testing.T) { // the chapter's examples
	m := mem.New()
	want(t, "Put", m.Put(value("a", 1, "x"), 1), api.OK)
	want(t, "Put", m.Put(gone("a", 3), 2), api.OK)
	want(t, "Put", m.Put(value("b", 2, "y"), 1), api.OK)
	wantMem(t, "the example", m, []api.Cell{gone("a", 3), value("a", 1, "x"), value("b", 2, "y")}, []int{3, 1})
	x, none := value("a", 1, "x"), gone("a", 3)
	wantGet(t, m, "a", 2, &x)
	wantGet(t, m, "a", 9, &none)
	wantGet(t, m, "b", 1, nil)
}
