package block_test

import (
	"encoding/binary"
	"math/rand"
	"slices"
	"strings"
	"testing"

	"atrium/api"
	"atrium/block"
)

// laid is a block's bytes as the chapter says them, whether the list may be a block's or not.
func laid(l []api.Cell, restart int) string {
	var b []byte
	var starts []int
	for i, c := range l {
		shared := 0
		if i%restart == 0 {
			starts = append(starts, len(b))
		} else {
			for shared < min(len(c.Key), len(l[i-1].Key)) && strings.HasPrefix(l[i-1].Key, c.Key[:shared+1]) {
				shared++
			}
		}
		for _, n := range []int{shared, len(c.Key) - shared, len(c.Value)} {
			b = binary.AppendUvarint(b, uint64(n))
		}
		if c.Gone {
			b = append(b, 1)
		} else {
			b = append(b, 0)
		}
		b = binary.AppendUvarint(b, c.Seq)
		b = append(b, c.Key[shared:]+c.Value...)
	}
	return seal(string(b) + foot(restart, starts...))
}

// scan is bytes that are read from the front; short: there were too few, or a number had another form.
type scan struct {
	rest  []byte
	short bool
}

func (s *scan) varint() int {
	n, size := binary.Uvarint(s.rest)
	if size < 1 || size > 1 && s.rest[size-1] == 0 || n > 1<<62 {
		s.short = true
		return 0
	}
	s.rest = s.rest[size:]
	return int(n)
}

func (s *scan) bytes(n int) string {
	if n > len(s.rest) {
		s.short = true
		return ""
	}
	b := string(s.rest[:n])
	s.rest = s.rest[n:]
	return b
}

// tell is whether bytes are a block, and whose, told from the chapter's words one by one.
func tell(s string) (l []api.Cell, starts []int, ok bool) {
	n := len(s) - 10
	if n < 0 || len(s) > 65536 || seal(s[:n+6]) != s {
		return nil, nil, false
	}
	count, restart := int(binary.BigEndian.Uint32([]byte(s[n:]))), int(binary.BigEndian.Uint16([]byte(s[n+4:])))
	if restart < 1 || restart > 64 || 4*count > n {
		return nil, nil, false
	}
	end := n - 4*count
	r := scan{rest: []byte(s[:end])}
	last := api.Cell{}
	for i := 0; len(r.rest) > 0; i++ {
		if i%restart == 0 {
			starts = append(starts, end-len(r.rest))
			last.Key = ""
		}
		shared, more, size := r.varint(), r.varint(), r.varint()
		gone, seq := r.bytes(1), uint64(r.varint())
		rest, value := r.bytes(more), r.bytes(size)
		if r.short || shared > len(last.Key) || gone > "\x01" || seq >= 1<<56 || size > 1024 || shared+more > 128 || shared+more < 1 || gone == "\x01" && size > 0 {
			return nil, nil, false
		}
		if shared < len(last.Key) && more > 0 && last.Key[shared] == rest[0] {
			return nil, nil, false
		}
		c := api.Cell{Key: last.Key[:shared] + rest, Seq: seq, Value: value, Gone: gone == "\x01"}
		if i > 0 && (l[i-1].Key > c.Key || l[i-1].Key == c.Key && l[i-1].Seq <= c.Seq) {
			return nil, nil, false
		}
		l = append(l, c)
		last = c
	}
	if len(starts) != count {
		return nil, nil, false
	}
	for i, start := range starts {
		if int(binary.BigEndian.Uint32([]byte(s[end+4*i:]))) != start {
			return nil, nil, false
		}
	}
	return l, starts, true
}

// randomKey is one of few, so that keys are met again, and share their beginnings.
func randomKey(r *rand.Rand) string {
	b := make([]byte, 1+r.Intn(4))
	for i := range b {
		b[i] = []byte{0, 'a', 'b', 0xff}[r.Intn(4)]
	}
	return string(b)
}

// randomList is a list that may be a block's.
func randomList(r *rand.Rand, most int) []api.Cell {
	var l []api.Cell
	for range r.Intn(most + 1) {
		c := api.Cell{Key: randomKey(r), Seq: uint64(r.Intn(9)), Gone: r.Intn(3) == 0}
		if r.Intn(9) == 0 {
			c.Key = strings.Repeat(c.Key[:1], 1+r.Intn(128))
		}
		if r.Intn(4) == 0 {
			c.Seq = r.Uint64() >> (8 + r.Intn(56))
		}
		if !c.Gone {
			c.Value = strings.Repeat("v", r.Intn([]int{3, 300}[r.Intn(2)]))
		}
		l = append(l, c)
	}
	return sorted(l)
}

// sorted is a list in the cells' order; of those that are alike one.
func sorted(l []api.Cell) []api.Cell {
	slices.SortFunc(l, func(a, b api.Cell) int {
		if n := strings.Compare(a.Key, b.Key); n != 0 {
			return n
		}
		if a.Seq > b.Seq {
			return -1
		}
		if a.Seq < b.Seq {
			return 1
		}
		return 0
	})
	return slices.CompactFunc(l, func(a, b api.Cell) bool { return a.Key == b.Key && a.Seq == b.Seq })
}

func TestPlays(t *testing.T) { // P8.1 to P8.3
	r := rand.New(rand.NewSource(1))
	for range 500 {
		l, restart := randomList(r, 40), 1+r.Intn([]int{4, 64}[r.Intn(2)])
		s := built(t, restart, l...)
		wantBytes(t, "Build", s, laid(l, restart))
		b, e := block.Open(s)
		want(t, "Open", e, api.OK)
		wantList(t, "Cells", b.Cells(), l)
		want(t, "Len", b.Len(), len(l))
		want(t, "Restarts", b.Restarts(), (len(l)+restart-1)/restart)
		wantBytes(t, "Bytes", b.Bytes(), s)
		wantBytes(t, "Build of the cells", built(t, restart, b.Cells()...), s)
		for range 40 {
			key := randomKey(r)
			if len(l) > 0 && r.Intn(2) == 0 {
				key = l[r.Intn(len(l))].Key
			}
			wantAsked(t, b, l, key, uint64(r.Intn(10)))
			from, to := randomKey(r)[r.Intn(2):], randomKey(r)[r.Intn(2):]
			wantList(t, "Scan", slices.Collect(b.Scan(from, to)), within(l, from, to))
		}
		if t.Failed() {
			t.Fatal("of", l, restart)
		}
	}
}

func TestCheckPlays(t *testing.T) { // P8.1: some in order, some not
	r := rand.New(rand.NewSource(2))
	for range 3000 {
		l := randomList(r, 6)
		if len(l) > 1 && r.Intn(2) == 0 {
			i, j := r.Intn(len(l)), r.Intn(len(l))
			l[i], l[j] = l[j], l[i]
		}
		if len(l) > 1 && r.Intn(4) == 0 {
			i := r.Intn(len(l))
			l = slices.Insert(l, i, l[i])
		}
		should := api.OK
		if !slices.Equal(l, sorted(slices.Clone(l))) {
			should = api.ErrSort
		}
		want(t, "Check", block.Check(l), should)
		_, e := block.Build(l, 3)
		want(t, "Build", e, should)
	}
}

// spoil changes some bytes ahead of the check sum, and the sum with them.
func spoil(r *rand.Rand, s string) string {
	b := []byte(s[:len(s)-4])
	for range 1 + r.Intn(2) {
		i := r.Intn(len(b) + 1)
		switch r.Intn(6) {
		case 0:
			b = slices.Insert(b, i, byte(r.Intn(256)))
		case 1:
			b = slices.Insert(b, i, 0)
		case 2:
			b = slices.Delete(b, max(i-1, 0), i)
		case 3:
			b[max(i-1, 0)] = byte(r.Intn(256))
		case 4:
			b[max(i-1, 0)] ^= 1 << r.Intn(8)
		default:
			b[max(i-1, 0)] += byte(r.Intn(3)) - 1
		}
	}
	return seal(string(b))
}

func TestOpenPlays(t *testing.T) { // P8.1: whatever bytes, with a check sum that fits them
	r := rand.New(rand.NewSource(3))
	blocks := 0
	for range 60000 {
		s := spoil(r, laid(randomList(r, 5), 1+r.Intn(4)))
		l, starts, ok := tell(s)
		b, e := block.Open(s)
		if !ok {
			if e != api.ErrBlock || b != nil {
				t.Fatalf("%x is no block", s)
			}
			continue
		}
		blocks++
		if e != api.OK || !slices.Equal(b.Cells(), l) || b.Restarts() != len(starts) || b.Len() != len(l) || b.Bytes() != s {
			t.Fatalf("%x is a block", s)
		}
	}
	want(t, "both are met", blocks > 1000 && blocks < 59000, true)
}
