package table_test

import (
	"bytes"
	"encoding/binary"
	"hash/crc32"
	"math/rand"
	"slices"
	"strconv"
	"strings"
	"testing"

	"atrium/api"
	"atrium/block"
	"atrium/filter"
	"atrium/table"
)

// row is what an index says of a block.
type row struct {
	first    string
	at, size int
}

// torn is a table's bytes in pieces, with what its foot says.
type torn struct {
	blocks, filter, index []byte
	numbers               [6]int // where the filter begins, its bytes, where the index begins, its bytes, cells, Block
	restart, bits         int
}

// crc is the check sum by the library.
func crc(b []byte) uint32 {
	return crc32.Checksum(b, crc32.MakeTable(crc32.Castagnoli))
}

// bytes is the pieces as one, with a check sum that fits them.
func (p torn) bytes() []byte {
	b := slices.Concat(p.filter, p.index)
	for _, n := range p.numbers {
		b = binary.BigEndian.AppendUint32(b, uint32(n))
	}
	b = binary.BigEndian.AppendUint16(b, uint16(p.restart))
	b = binary.BigEndian.AppendUint16(b, uint16(p.bits))
	b = binary.BigEndian.AppendUint32(b, crc(b))
	return slices.Concat(p.blocks, b, []byte("ATBL"))
}

// placed is the pieces with the numbers of their places and lengths.
func (p torn) placed() torn {
	p.numbers[0], p.numbers[1] = len(p.blocks), len(p.filter)
	p.numbers[2], p.numbers[3] = len(p.blocks)+len(p.filter), len(p.index)
	return p
}

// tornOf is a table's bytes in pieces, and its index row by row.
func tornOf(b []byte) (torn, []row) {
	var p torn
	foot := len(b) - 36
	for i := range p.numbers {
		p.numbers[i] = int(binary.BigEndian.Uint32(b[foot+4*i:]))
	}
	p.restart, p.bits = int(binary.BigEndian.Uint16(b[foot+24:])), int(binary.BigEndian.Uint16(b[foot+26:]))
	p.blocks, p.filter, p.index = bytes.Clone(b[:p.numbers[0]]), bytes.Clone(b[p.numbers[0]:p.numbers[2]]), bytes.Clone(b[p.numbers[2]:foot])
	rows, _ := readRows(p.index)
	return p, rows
}

// indexOf is an index's bytes.
func indexOf(rows []row) []byte {
	var b []byte
	for _, r := range rows {
		b = binary.AppendUvarint(b, uint64(len(r.first)))
		b = append(b, r.first...)
		b = binary.AppendUvarint(b, uint64(r.at))
		b = binary.AppendUvarint(b, uint64(r.size))
	}
	return b
}

// readRows is an index's rows; false, if the bytes are none.
func readRows(b []byte) ([]row, bool) {
	var rows []row
	number := func() (int, bool) {
		n, size := binary.Uvarint(b)
		if size < 1 || size > 1 && b[size-1] == 0 || n > 1<<40 {
			return 0, false
		}
		b = b[size:]
		return int(n), true
	}
	for len(b) > 0 {
		n, ok := number()
		if !ok || n > len(b) {
			return nil, false
		}
		r := row{first: string(b[:n])}
		b = b[n:]
		var ok2 bool
		r.at, ok = number()
		r.size, ok2 = number()
		if !ok || !ok2 {
			return nil, false
		}
		rows = append(rows, r)
	}
	return rows, true
}

// grouped is the cells of each block.
func grouped(l []api.Cell, most int) [][]api.Cell {
	var groups [][]api.Cell
	weight := most // of the last block: as if one were full
	for _, c := range l {
		if weight >= most {
			groups = append(groups, nil)
			weight = 0
		}
		groups[len(groups)-1] = append(groups[len(groups)-1], c)
		weight += len(c.Key) + len(c.Value) + 16
	}
	return groups
}

// keysOf is the keys of a list, each once.
func keysOf(l []api.Cell) []string {
	var keys []string
	for _, c := range l {
		if !slices.Contains(keys[max(len(keys)-1, 0):], c.Key) {
			keys = append(keys, c.Key)
		}
	}
	return keys
}

// laidGroups is what a table's bytes would be, if its blocks were these.
func laidGroups(groups [][]api.Cell, s api.Shape) torn {
	p := torn{restart: s.Restart, bits: s.Bits}
	var rows []row
	var all []api.Cell
	for _, l := range groups {
		text, _ := block.Build(l, s.Restart)
		first := ""
		if len(l) > 0 {
			first = l[0].Key
		}
		rows = append(rows, row{first, len(p.blocks), len(text)})
		p.blocks = append(p.blocks, text...)
		all = append(all, l...)
	}
	p.filter, _ = filter.Build(keysOf(all), s.Bits)
	p.index = indexOf(rows)
	p.numbers[4], p.numbers[5] = len(all), s.Block
	return p.placed()
}

// laid is what a table's bytes are to be.
func laid(l []api.Cell, s api.Shape) []byte {
	return laidGroups(grouped(l, s.Block), s).bytes()
}

// tell is whether bytes are a table, and whose, told from the chapter's words one by one.
func tell(b []byte) ([]api.Cell, api.Shape, bool) {
	foot := len(b) - 36
	if foot < 0 || len(b) > 1<<20 || string(b[len(b)-4:]) != "ATBL" {
		return nil, api.Shape{}, false
	}
	n := func(i int) int { return int(binary.BigEndian.Uint32(b[foot+4*i:])) }
	s := shape(n(5), n(6)>>16, n(6)&0xffff)
	if s.Block < 64 || s.Block > 32768 || s.Restart < 1 || s.Restart > 64 || s.Bits < 1 || s.Bits > 32 {
		return nil, s, false
	}
	if n(0)+n(1) != n(2) || n(2)+n(3) != foot || crc(b[n(0):len(b)-8]) != uint32(n(7)) {
		return nil, s, false
	}
	rows, ok := readRows(b[n(2):foot])
	l, ok2 := tellBlocks(b[:n(0)], rows, s)
	if !ok || !ok2 || len(l) != n(4) || len(l) < 1 || len(l) > 65536 {
		return nil, s, false
	}
	should, _ := filter.Build(keysOf(l), s.Bits)
	return l, s, bytes.Equal(should, b[n(0):n(2)])
}

// tellBlocks is the cells of blocks; false, if an index does not tell of just them, or they are not those of a table.
func tellBlocks(b []byte, rows []row, s api.Shape) ([]api.Cell, bool) {
	var all []api.Cell
	at := 0
	for i, r := range rows {
		if r.at != at || r.size < 14 || r.size > len(b)-at {
			return nil, false
		}
		text := string(b[at : at+r.size])
		at += r.size
		x, e := block.Open(text)
		if e != api.OK || x.Len() == 0 || int(text[len(text)-6])<<8|int(text[len(text)-5]) != s.Restart {
			return nil, false
		}
		l := x.Cells()
		weight := func(l []api.Cell) (sum int) {
			for _, c := range l {
				sum += len(c.Key) + len(c.Value) + 16
			}
			return sum
		}
		if l[0].Key != r.first || weight(l[:len(l)-1]) >= s.Block || i < len(rows)-1 && weight(l) < s.Block {
			return nil, false
		}
		if last := len(all) - 1; i > 0 && (all[last].Key > l[0].Key || all[last].Key == l[0].Key && all[last].Seq <= l[0].Seq) {
			return nil, false
		}
		all = append(all, l...)
	}
	return all, at == len(b)
}

// many is a list of so many keys, with one to three versions each.
func many(n int) []api.Cell {
	var l []api.Cell
	for i := range n {
		key := "key" + strconv.Itoa(100+i)
		l = append(l, value(key, 9, "nine"+strconv.Itoa(i)))
		if i%3 > 0 {
			l = append(l, gone(key, 6))
		}
		if i%3 > 1 {
			l = append(l, value(key, 3, strings.Repeat("v", i)))
		}
	}
	return l
}

// randomKey is one of few, so that keys are met again.
func randomKey(r *rand.Rand) string {
	b := make([]byte, 1+r.Intn(3))
	for i := range b {
		b[i] = []byte{0, 'a', 'b', 0xff}[r.Intn(4)]
	}
	return string(b)
}

// randomList is a list that may be a table's.
func randomList(r *rand.Rand, most int) []api.Cell {
	var l []api.Cell
	for range 1 + r.Intn(most) {
		c := api.Cell{Key: randomKey(r), Seq: uint64(r.Intn(9)), Gone: r.Intn(3) == 0}
		if r.Intn(9) == 0 {
			c.Key = strings.Repeat(c.Key[:1], 1+r.Intn(128))
		}
		if r.Intn(9) == 0 {
			c.Seq = r.Uint64() >> (8 + r.Intn(56))
		}
		if !c.Gone {
			c.Value = strings.Repeat("v", r.Intn([]int{3, 100}[r.Intn(2)]))
		}
		l = append(l, c)
	}
	return sorted(l)
}

// sorted is a list in the cells' order; of those that are alike one.
func sorted(l []api.Cell) []api.Cell {
	slices.SortFunc(l, func(a, b api.Cell) int {
		if n := strings.Compare(a.Key, b.Key); n != 0 {
			return n
		}
		if a.Seq > b.Seq {
			return -1
		}
		if a.Seq < b.Seq {
			return 1
		}
		return 0
	})
	return slices.CompactFunc(l, func(a, b api.Cell) bool { return a.Key == b.Key && a.Seq == b.Seq })
}

// randomShape is a shape that may be.
func randomShape(r *rand.Rand) api.Shape {
	return shape([]int{64, 65, 100, 200, 64 + r.Intn(1000), 32768}[r.Intn(6)], []int{1, 2, 1 + r.Intn(64)}[r.Intn(3)], 1+r.Intn(32))
}

func TestPlays(t *testing.T) { // P9.1 to P9.6
	r := rand.New(rand.NewSource(1))
	for range 600 {
		l, s := randomList(r, 60), randomShape(r)
		b := built(t, l, s)
		wantBytes(t, "Build", b, laid(l, s))
		x, e := table.Open(b)
		want(t, "Open", e, api.OK)
		wantTable(t, x, l, s)
		wantBytes(t, "Build of the cells", built(t, slices.Collect(x.Scan("", "")), x.Shape()), x.Bytes())
		for range 40 {
			key := randomKey(r)
			if r.Intn(2) == 0 {
				key = l[r.Intn(len(l))].Key
			}
			wantGet(t, x, l, key, uint64(r.Intn(10)))
			from, to := randomKey(r)[r.Intn(2):], randomKey(r)[r.Intn(2):]
			wantList(t, "Scan", slices.Collect(x.Scan(from, to)), within(l, from, to))
		}
		if t.Failed() {
			t.Fatal("of", l, s)
		}
	}
}

// change changes a table's pieces in one or two places; the check sum is made anew.
func change(r *rand.Rand, b []byte, other []byte) []byte {
	p, rows := tornOf(b)
	q, _ := tornOf(other)
	for range 1 + r.Intn(2) {
		switch r.Intn(12) {
		case 0:
			p.numbers[r.Intn(6)] += r.Intn(3) - 1
		case 1:
			p.numbers[5] += r.Intn(41) - 20
		case 2:
			p.restart += r.Intn(3) - 1
		case 3:
			p.bits += r.Intn(5) - 2
		case 4:
			p.filter = q.filter
		case 5:
			p.index = q.index
		case 6:
			p.blocks = q.blocks
		case 7:
			p.filter[r.Intn(len(p.filter))] ^= 1 << r.Intn(8)
		case 8:
			rows[r.Intn(len(rows))].size += r.Intn(3) - 1
			p.index = indexOf(rows)
		case 9:
			rows[r.Intn(len(rows))].at += r.Intn(3) - 1
			p.index = indexOf(rows)
		case 10:
			p.blocks = slices.Insert(p.blocks, r.Intn(len(p.blocks)+1), byte(r.Intn(256)))
		case 11:
			if n := len(p.index); n > 0 {
				p.index[r.Intn(n)] += byte(1 + r.Intn(255))
			}
		}
		if r.Intn(3) == 0 {
			p = p.placed()
		}
	}
	return p.bytes()
}

func TestOpenPlays(t *testing.T) { // P9.2: whatever bytes, with a check sum that fits them
	r := rand.New(rand.NewSource(2))
	tables := 0
	for range 20000 {
		l, s := randomList(r, 8), randomShape(r)
		other := slices.Clone(l)
		if r.Intn(2) == 0 && len(other) > 1 {
			other = slices.Delete(other, 1, 2)
		} else {
			other[0].Value, other[0].Gone = other[0].Value+"x", false
		}
		b := change(r, laid(l, s), laid(other, s))
		cells, its, ok := tell(b)
		x, e := table.Open(b)
		if !ok {
			if e != api.ErrTable || x != nil {
				t.Fatalf("%x is no table", b)
			}
			continue
		}
		tables++
		if e != api.OK || !slices.Equal(slices.Collect(x.Scan("", "")), cells) || x.Shape() != its || !bytes.Equal(x.Bytes(), b) {
			t.Fatalf("%x is a table", b)
		}
	}
	want(t, "both are met", tables > 500 && tables < 19500, true)
}

func TestRegrouped(t *testing.T) { // P9.2: blocks ended elsewhere, with all else as it should be
	r := rand.New(rand.NewSource(3))
	tables := 0
	for range 3000 {
		l, s := randomList(r, 12), randomShape(r)
		groups := grouped(l, s.Block)
		for range 1 + r.Intn(2) {
			i := r.Intn(len(groups))
			switch r.Intn(3) {
			case 0:
				groups = slices.Insert(groups, i, nil)
			case 1:
				n := r.Intn(len(groups[i]) + 1)
				groups = slices.Insert(groups, i+1, groups[i][n:])
				groups[i] = groups[i][:n]
			case 2:
				if i > 0 {
					groups[i-1] = slices.Concat(groups[i-1], groups[i])
					groups = slices.Delete(groups, i, i+1)
				}
			}
		}
		b := laidGroups(groups, s).bytes()
		_, _, ok := tell(b)
		_, e := table.Open(b)
		want(t, "Open", e == api.OK, ok)
		want(t, "as Build lays it", bytes.Equal(b, laid(l, s)), ok)
		if ok {
			tables++
		}
	}
	want(t, "both are met", tables > 100 && tables < 2900, true)
}
