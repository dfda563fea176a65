package table_test

import (
	"bytes"
	"encoding/binary"
	"math/rand"
	"slices"
	"strconv"
	"strings"
	"testing"

	"atrium/api"
	"atrium/block"
	"atrium/filter"
	"atrium/table"
)

// refuseOpen is that bytes are no table.
func refuseOpen(t *testing.T, what string, b []byte) {
	t.Helper()
	x, e := table.Open(b)
	want(t, what, e, api.ErrTable)
	want(t, what+": no table", x == nil, true)
}

// refuseTorn is that pieces are no table, though their check sum fits; also with numbers that fit them.
func refuseTorn(t *testing.T, what string, p torn) {
	t.Helper()
	refuseOpen(t, what, p.bytes())
	refuseOpen(t, what+", placed", p.placed().bytes())
}

// takeOpen is that bytes are the table of a list and a shape.
func takeOpen(t *testing.T, what string, b []byte, l []api.Cell, s api.Shape) {
	t.Helper()
	x, e := table.Open(b)
	want(t, what, e, api.OK)
	wantTable(t, x, l, s)
}

// ordinary is a table of several blocks; its pieces are the test's to change.
func ordinary() ([]api.Cell, api.Shape, torn, []row) {
	l, s := many(12), shape(100, 2, 10)
	p, rows := tornOf(laid(l, s))
	return l, s, p, rows
}

func TestOpenOfBuild(t *testing.T) { // P9.5
	for _, s := range slices.Concat(shapes(), asked()) {
		for _, l := range [][]api.Cell{{value("a", 1, "x")}, {gone("a", 0)}, some(), many(30), versions("k", 50)} {
			takeOpen(t, "Open of Build", built(t, l, s), l, s)
			takeOpen(t, "Open of what it should be", laid(l, s), l, s)
		}
	}
}

func TestOpenShort(t *testing.T) { // P9.2: too few bytes, and bytes left over
	refuseOpen(t, "nil", nil)
	refuseOpen(t, "none", []byte{})
	for n := range 80 {
		refuseOpen(t, strconv.Itoa(n)+" noughts", make([]byte, n))
		refuseOpen(t, strconv.Itoa(n)+" bytes and the letters", append(make([]byte, n), "ATBL"...))
		refuseOpen(t, strconv.Itoa(n)+" bytes FF", bytes.Repeat([]byte{0xff}, n))
	}
	l, s, p, _ := ordinary()
	b := p.bytes()
	takeOpen(t, "a table", b, l, s)
	for n := range b {
		refuseOpen(t, "cut off behind", b[:n])
		refuseOpen(t, "cut off ahead", b[n+1:])
		refuseOpen(t, "a byte less", slices.Delete(bytes.Clone(b), n, n+1))
		refuseOpen(t, "a byte more", slices.Insert(bytes.Clone(b), n, b[n]))
		refuseOpen(t, "a nought more", slices.Insert(bytes.Clone(b), n, 0))
	}
	for _, more := range []string{"\x00", "A", "ATBL", string(b), string(b[len(b)-36:])} {
		refuseOpen(t, "more behind", append(bytes.Clone(b), more...))
		refuseOpen(t, "more ahead", append([]byte(more), b...))
	}
	refuseOpen(t, "far too many", make([]byte, api.MaxFile+1))
	refuseOpen(t, "far too many", append(make([]byte, api.MaxFile), b...))
}

func TestOpenLeftOver(t *testing.T) { // P9.2: bytes between the pieces
	_, _, p, rows := ordinary()
	for _, more := range []string{"\x00", "\x01\x02", strings.Repeat("\x00", 14), string(p.index), string(p.filter)} {
		q := p
		q.blocks = append(bytes.Clone(p.blocks), more...)
		refuseTorn(t, "behind the blocks", q)
		q.blocks = append([]byte(more), p.blocks...)
		refuseTorn(t, "ahead of the blocks", q)
		moved := slices.Clone(rows)
		for i := range moved {
			moved[i].at += len(more)
		}
		q.index = indexOf(moved)
		refuseTorn(t, "ahead of the blocks, and told so", q)
		q = p
		q.filter = append(bytes.Clone(p.filter), more...)
		refuseTorn(t, "behind the filter", q)
		q.filter = append([]byte(more), p.filter...)
		refuseTorn(t, "ahead of the filter", q)
		q = p
		q.index = append(bytes.Clone(p.index), more...)
		refuseTorn(t, "behind the index", q)
		q.index = append([]byte(more), p.index...)
		refuseTorn(t, "ahead of the index", q)
	}
}

func TestOpenFoot(t *testing.T) { // P9.2: each number of the foot
	_, _, p, _ := ordinary()
	for i := range p.numbers {
		for _, n := range []int{0, 1, p.numbers[i] - 1, p.numbers[i] + 1, p.numbers[i] * 2, len(p.bytes()), len(p.bytes()) - 36, 1 << 20, 1<<31 - 1, 1 << 31, 1<<32 - 1} {
			q := p
			q.numbers[i] = n
			if n != p.numbers[i] && !(i == 5 && (n == 99 || n == 101)) { // Block: see TestOpenOtherShapes
				refuseOpen(t, "number "+strconv.Itoa(i)+" is "+strconv.Itoa(n), q.bytes())
			}
		}
		for j := range p.numbers {
			q := p
			q.numbers[i], q.numbers[j] = p.numbers[j], p.numbers[i]
			if p.numbers[i] != p.numbers[j] {
				refuseOpen(t, "numbers that changed places", q.bytes())
			}
		}
	}
	for _, n := range []int{0, 1, 3, 64, 65, 256, 65535} {
		q := p
		q.restart = n
		refuseOpen(t, "Restart", q.bytes())
	}
	for _, n := range []int{0, 8, 11, 32, 33, 256, 65535} {
		q := p
		q.bits = n
		refuseOpen(t, "Bits", q.bytes())
	}
	q := p
	q.numbers = [6]int{}
	refuseTorn(t, "noughts", q)
	for _, end := range []string{"ATBM", "BTBL", "atbl", "LBTA", "\x00\x00\x00\x00", "ATB"} {
		b := p.bytes()
		refuseOpen(t, "the letters "+end, append(b[:len(b)-4], end...))
	}
}

func TestOpenSum(t *testing.T) { // P9.2: the check sum of something else
	_, _, p, _ := ordinary()
	b := p.bytes()
	at := len(b) - 8
	for _, x := range []struct {
		what string
		of   []byte
	}{
		{"none", nil}, {"all", b[:at]}, {"the blocks", p.blocks}, {"the filter", p.filter}, {"the index", p.index}, {"the foot", b[at-28 : at]},
		{"the index and the foot", b[p.numbers[2]:at]}, {"all from the filter on", slices.Concat(b[p.numbers[0]:at], []byte("ATBL"))}, {"without the foot", b[p.numbers[0] : at-28]},
		{"with itself", b[p.numbers[0] : at+4]}, {"the last block on", b[p.numbers[0]-1 : at]},
	} {
		c := bytes.Clone(b)
		binary.BigEndian.PutUint32(c[at:], crc(x.of))
		refuseOpen(t, "the sum of "+x.what, c)
	}
	for _, n := range []uint32{0, 1, 1<<32 - 1, ^crc(b[p.numbers[0]:at]), crc(b[p.numbers[0]:at]) + 1} {
		c := bytes.Clone(b)
		binary.BigEndian.PutUint32(c[at:], n)
		refuseOpen(t, "another sum", c)
	}
	turned := bytes.Clone(b)
	slices.Reverse(turned[at : at+4])
	refuseOpen(t, "the lowest byte first", turned)
}

func TestOpenFilter(t *testing.T) { // P9.2: another one's filter
	l, _, p, _ := ordinary()
	keys := keysOf(l)
	twice := slices.Concat(keys, keys)
	for _, x := range []struct {
		what string
		keys []string
		bits int
	}{
		{"of no keys", nil, 10}, {"of a key less", keys[1:], 10}, {"of a key more", append(slices.Clone(keys), "z"), 10}, {"of another key", append(slices.Clone(keys[1:]), "z"), 10},
		{"of each cell's key", append(slices.Clone(keys), keys[1]), 10}, {"of all twice", twice, 10}, {"of all twice, half the bits", twice, 5}, {"by other bits", keys, 9}, {"by other bits", keys, 11}, {"by other bits", keys, 32},
	} {
		q := p
		q.filter, _ = filter.Build(x.keys, x.bits)
		want(t, "another one", bytes.Equal(q.filter, p.filter), false)
		refuseTorn(t, "a filter "+x.what, q)
	}
	for _, f := range [][]byte{nil, {}, {6}, make([]byte, len(p.filter)), bytes.Repeat([]byte{0xff}, len(p.filter)), append(bytes.Repeat([]byte{0xff}, len(p.filter)-1), 6)} {
		q := p
		q.filter = f
		refuseTorn(t, "no filter of the keys", q)
	}
	for i := range p.filter {
		for bit := range 8 {
			q := p
			q.filter = bytes.Clone(p.filter)
			q.filter[i] ^= 1 << bit
			refuseTorn(t, "a bit of the filter", q)
		}
	}
}

func TestOpenIndex(t *testing.T) { // P9.2: another one's index
	_, _, p, rows := ordinary()
	refuse := func(what string, rows []row) {
		t.Helper()
		q := p
		q.index = indexOf(rows)
		refuseTorn(t, what, q)
	}
	for i := range rows {
		for _, r := range []row{
			{rows[i].first + "\x00", rows[i].at, rows[i].size}, {"", rows[i].at, rows[i].size}, {rows[i].first[1:], rows[i].at, rows[i].size}, {"zzz", rows[i].at, rows[i].size},
			{rows[i].first, rows[i].at + 1, rows[i].size}, {rows[i].first, max(rows[i].at-1, 1), rows[i].size}, {rows[i].first, 1 << 30, rows[i].size},
			{rows[i].first, rows[i].at, rows[i].size + 1}, {rows[i].first, rows[i].at, rows[i].size - 1}, {rows[i].first, rows[i].at, 0},
			{rows[i].first, rows[i].at, len(p.blocks)}, {rows[i].first, rows[i].at, 1 << 62}, {rows[i].first, rows[i].at + 1, rows[i].size - 1}, {strings.Repeat("k", 129), rows[i].at, rows[i].size},
		} {
			changed := slices.Clone(rows)
			changed[i] = r
			refuse("a row that is another one", changed)
		}
		refuse("a row less", slices.Delete(slices.Clone(rows), i, i+1))
		refuse("a row twice", slices.Insert(slices.Clone(rows), i, rows[i]))
		refuse("an empty row", slices.Insert(slices.Clone(rows), i, row{rows[i].first, rows[i].at, 0}))
		for j := range i {
			changed := slices.Clone(rows)
			changed[i], changed[j] = rows[j], rows[i]
			refuse("rows that changed places", changed)
		}
	}
	refuse("no rows", nil)
	refuse("one row of all", []row{{rows[0].first, 0, len(p.blocks)}})
	for n := range p.index {
		q := p
		q.index = p.index[:n]
		refuseTorn(t, "an index that is cut off", q)
		q.index = p.index[n+1:]
		refuseTorn(t, "an index that begins late", q)
	}
}

func TestOpenLongNumbers(t *testing.T) { // P9.2: numbers of the index that are not in their shortest form, or too long
	l, s := []api.Cell{value("a", 1, "x")}, shape(64, 1, 10)
	p, rows := tornOf(laid(l, s))
	size := byte(rows[0].size)
	for _, index := range [][]byte{
		{0x81, 0, 'a', 0, size}, {1, 'a', 0x80, 0, size}, {1, 'a', 0, size | 0x80, 0}, {1, 'a', 0, size | 0x80}, {1, 'a', 0, size, 0}, {1, 'a', 0, size, 1},
		append([]byte{1, 'a', 0}, bytes.Repeat([]byte{0xff}, 9)...), append([]byte{1, 'a', 0}, append(bytes.Repeat([]byte{0xff}, 9), 1)...), append(bytes.Repeat([]byte{0xff}, 9), 1), {2, 'a', 0, size}, {0, 0, size},
	} {
		q := p
		q.index = index
		refuseTorn(t, "an index of another form", q)
	}
	q := p
	q.index = []byte{1, 'a', 0, size}
	takeOpen(t, "the index", q.bytes(), l, s)
}

func TestOpenOtherShapes(t *testing.T) { // P9.2: a shape that is another one's is taken where all comes out the same, and only there
	l, s, p, _ := ordinary()
	same := 0
	for n := 0; n < 40000; n++ {
		if n > 300 && n < 32700 && n%101 != 0 { // those between are like one another
			continue
		}
		q := p
		q.numbers[5] = n
		ends := slices.EqualFunc(grouped(l, n), grouped(l, s.Block), slices.Equal[[]api.Cell])
		if n < 64 || n > 32768 || !ends {
			refuseOpen(t, "Block "+strconv.Itoa(n), q.bytes())
			continue
		}
		same++
		takeOpen(t, "Block "+strconv.Itoa(n), q.bytes(), l, shape(n, s.Restart, s.Bits))
	}
	want(t, "some are the same", same > 1 && same < 50, true)
	few := []api.Cell{value("a", 1, "x"), value("b", 1, "x")}
	p, _ = tornOf(laid(few, shape(64, 2, 9)))
	for bits := range 66 {
		q := p
		q.bits = bits
		f, e := filter.Build([]string{"a", "b"}, bits)
		if e == api.OK && bytes.Equal(f, p.filter) {
			takeOpen(t, "Bits "+strconv.Itoa(bits), q.bytes(), few, shape(64, 2, bits))
		} else {
			refuseOpen(t, "Bits "+strconv.Itoa(bits), q.bytes())
		}
	}
	want(t, "by 9 and by 10", string(laidGroups([][]api.Cell{few}, shape(64, 2, 10)).filter), string(p.filter))
}

func TestOpenBlocks(t *testing.T) { // P9.2: blocks that are not those of a table, with all else as it should be
	l, s, p, rows := ordinary()
	groups := grouped(l, s.Block)
	refuse := func(what string, groups [][]api.Cell, s api.Shape) {
		t.Helper()
		refuseTorn(t, what, laidGroups(groups, s))
	}
	for i := range groups {
		refuse("an empty block ahead", slices.Insert(slices.Clone(groups), i, nil), s)
		if i > 0 {
			joined := slices.Clone(groups)
			joined[i-1] = slices.Concat(groups[i-1], groups[i])
			refuse("two blocks as one", slices.Delete(joined, i, i+1), s)
			moved := slices.Clone(groups)
			moved[i-1] = slices.Concat(groups[i-1], groups[i][:1])
			moved[i] = groups[i][1:]
			refuse("a block that ends late", moved, s)
			early := slices.Clone(groups)
			n := len(groups[i-1]) - 1
			early[i-1] = groups[i-1][:n]
			early[i] = slices.Concat(groups[i-1][n:], groups[i])
			refuse("a block that ends early", early, s)
			turned := slices.Clone(groups)
			turned[i], turned[i-1] = groups[i-1], groups[i]
			refuse("blocks that changed places", turned, s)
		}
		refuse("a block twice", slices.Insert(slices.Clone(groups), i, groups[i]), s)
		other, _ := block.Build(groups[i], s.Restart+1)
		q := p
		q.blocks = slices.Replace(bytes.Clone(p.blocks), rows[i].at, rows[i].at+rows[i].size, []byte(other)...)
		changed := slices.Clone(rows)
		changed[i].size = len(other)
		for j := i + 1; j < len(rows); j++ {
			changed[j].at += len(other) - rows[i].size
		}
		q.index = indexOf(changed)
		refuseTorn(t, "a block by another Restart", q)
	}
	refuse("an empty block behind", append(slices.Clone(groups), nil), s)
	refuse("no blocks", nil, s)
	refuse("an empty block", [][]api.Cell{nil}, s)
	big := strings.Repeat("v", 100)
	for _, two := range [][]api.Cell{{value("a", 1, big), value("a", 1, big)}, {value("a", 1, big), value("a", 2, big)}, {value("b", 1, big), value("a", 1, big)}, {value("a", 1, big), gone("a", 1)}} {
		refuse("cells that do not rise from block to block", [][]api.Cell{two[:1], two[1:]}, s)
	}
	takeOpen(t, "ones that do", laidGroups([][]api.Cell{{value("a", 2, big)}, {value("a", 1, big)}}, s).bytes(), []api.Cell{value("a", 2, big), value("a", 1, big)}, s)
}

func TestOpenTooMany(t *testing.T) { // P9.2: cells that are too many, with all else as it should be
	s := shape(32768, 64, 1)
	l := tooMany()
	refuseOpen(t, "a cell too many", laid(l, s))
	x, e := table.Open(laid(l[1:], s))
	want(t, "as many as can be", e, api.OK)
	want(t, "Count", x.Count(), api.MaxCells)
}

func TestOpenNoShapes(t *testing.T) { // P9.2
	l := []api.Cell{value("a", 1, "x")}
	for _, s := range []api.Shape{shape(63, 1, 1), shape(32769, 1, 1), shape(0, 1, 1), shape(1<<32-1, 1, 1)} {
		refuseOpen(t, "a Block", laidGroups([][]api.Cell{l}, s).bytes())
	}
	p, _ := tornOf(laid(l, shape(64, 1, 1)))
	for _, restart := range []int{0, 65, 65535} { // block.Build has none such
		q := p
		q.restart = restart
		refuseOpen(t, "a Restart", q.bytes())
	}
}

func TestTurned(t *testing.T) { // P9.7: each byte, as each other one
	l := []api.Cell{value("ka", 9, strings.Repeat("x", 46)), gone("ka", 5), value("kb", 300, "y")}
	b := built(t, l, shape(64, 2, 10))
	for i := range b {
		was := b[i]
		for range 255 {
			b[i]++
			refuseOpen(t, "byte "+strconv.Itoa(i), b)
		}
		b[i] = was
	}
	takeOpen(t, "none", b, l, shape(64, 2, 10))
}

func TestTurnedBits(t *testing.T) { // P9.7: each bit of greater ones
	r := rand.New(rand.NewSource(4))
	for range 6 {
		b := built(t, randomList(r, 40), randomShape(r))
		for i := range b {
			for bit := range 8 {
				b[i] ^= 1 << bit
				refuseOpen(t, "byte "+strconv.Itoa(i), b)
				b[i] ^= 1 << bit
			}
		}
		_, e := table.Open(b)
		want(t, "none", e, api.OK)
	}
}

func TestOpenAnyBytes(t *testing.T) { // P9.2: whatever bytes
	r := rand.New(rand.NewSource(5))
	for range 20000 {
		b := make([]byte, r.Intn(200))
		r.Read(b)
		refuseOpen(t, "any bytes", b)
		for i := range b {
			b[i] &= 3 // small numbers, so that places are within
		}
		refuseOpen(t, "small bytes", append(b, "ATBL"...))
	}
}
