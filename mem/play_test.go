package mem_test

import (
	"math/rand"
	"slices"
	"strings"
	"testing"

	"atrium/api"
	"atrium/mem"
)

// shelf is what the chapter says, told another way: cells as they came, and their heights.
type shelf struct {
	cells   []api.Cell
	heights []int
}

func (s *shelf) put(c api.Cell, height int) api.Errno {
	if height < 1 || height > 12 {
		return api.ErrArg
	}
	for _, x := range s.cells {
		if x.Key == c.Key && x.Seq == c.Seq {
			return api.ErrTwice
		}
	}
	s.cells = append(s.cells, c)
	s.heights = append(s.heights, height)
	return api.OK
}

func (s *shelf) fork() *shelf {
	return &shelf{slices.Clone(s.cells), slices.Clone(s.heights)}
}

func (s *shelf) get(key string, seq uint64) *api.Cell {
	var best *api.Cell
	for i, c := range s.cells {
		if c.Key == key && c.Seq <= seq && (best == nil || c.Seq > best.Seq) {
			best = &s.cells[i]
		}
	}
	return best
}

func (s *shelf) scan(from, to string) []api.Cell {
	var l []api.Cell
	for _, c := range s.cells {
		if c.Key >= from && (to == "" || c.Key < to) {
			l = append(l, c)
		}
	}
	slices.SortFunc(l, func(a, b api.Cell) int {
		if n := strings.Compare(a.Key, b.Key); n != 0 {
			return n
		}
		if a.Seq > b.Seq {
			return -1
		}
		return 1
	})
	return l
}

func (s *shelf) levels() []int {
	var l []int
	for level := 1; level <= 12; level++ {
		n := 0
		for _, h := range s.heights {
			if h >= level {
				n++
			}
		}
		if n > 0 {
			l = append(l, n)
		}
	}
	return l
}

// randomKey is one of few, so that keys are met again.
func randomKey(r *rand.Rand) string {
	b := make([]byte, 1+r.Intn(3))
	for i := range b {
		b[i] = []byte{0, 'a', 'b', 0xff}[r.Intn(4)]
	}
	return string(b)
}

func randomCell(r *rand.Rand) api.Cell {
	c := api.Cell{Key: randomKey(r), Seq: uint64(r.Intn(9)), Gone: r.Intn(3) == 0}
	if !c.Gone {
		c.Value = strings.Repeat("v", r.Intn(4))
	}
	return c
}

func TestPlays(t *testing.T) { // P6.1 to P6.4
	r := rand.New(rand.NewSource(1))
	for range 200 {
		m, s := mem.New(), &shelf{}
		most := 1 + r.Intn(13)
		for range r.Intn(120) {
			c, height := randomCell(r), 1+r.Intn(most)
			want(t, "Put", m.Put(c, height), s.put(c, height))
		}
		wantMem(t, "a play", m, s.scan("", ""), s.levels())
		for range 60 {
			key, seq := randomKey(r), uint64(r.Intn(10))
			wantGet(t, m, key, seq, s.get(key, seq))
			from, to := randomKey(r)[r.Intn(2):], randomKey(r)[r.Intn(2):]
			wantList(t, "Scan", scanned(m, from, to), s.scan(from, to))
		}
		if t.Failed() {
			t.Fatal("of", s.cells, s.heights)
		}
	}
}

func TestForksInPlays(t *testing.T) { // P6.4
	r := rand.New(rand.NewSource(4))
	for range 100 {
		ms, ss := []*mem.Mem{mem.New()}, []*shelf{{}}
		for range 80 {
			i := r.Intn(len(ms))
			if len(ms) < 5 && r.Intn(8) == 0 {
				ms, ss = append(ms, ms[i].Fork()), append(ss, ss[i].fork())
			}
			c, height := randomCell(r), r.Intn(14)
			want(t, "Put", ms[i].Put(c, height), ss[i].put(c, height))
		}
		for i := range ms {
			wantMem(t, "a fork", ms[i], ss[i].scan("", ""), ss[i].levels())
		}
	}
}

func TestWhateverTheHeights(t *testing.T) { // P6.5
	r := rand.New(rand.NewSource(5))
	for range 100 {
		one, two, flat := mem.New(), mem.New(), mem.New()
		for range 80 {
			c := randomCell(r)
			e := one.Put(c, 1+r.Intn(12))
			want(t, "Put", two.Put(c, 1+r.Intn(12)), e)
			want(t, "Put", flat.Put(c, 1), e)
		}
		for _, m := range []*mem.Mem{one, two, flat} {
			levels := m.Levels()
			want(t, "the first level", levels[0], m.Len())
			for i := range levels[1:] {
				want(t, "it never rises", levels[i+1] <= levels[i], true)
				want(t, "it has one", levels[i+1] >= 1, true)
			}
		}
		wantList(t, "Cells", one.Cells(), flat.Cells())
		wantList(t, "Cells", two.Cells(), flat.Cells())
		want(t, "Len", one.Len(), flat.Len())
		want(t, "Size", one.Size(), flat.Size())
		for range 50 {
			key, to, seq := randomKey(r), randomKey(r), uint64(r.Intn(10))
			a, aIs := one.Get(key, seq)
			b, bIs := flat.Get(key, seq)
			want(t, "Get", a, b)
			want(t, "Get", aIs, bIs)
			wantList(t, "Scan", scanned(one, key, to), scanned(flat, key, to))
		}
	}
}

func TestSnapshot(t *testing.T) { // P6.6
	r := rand.New(rand.NewSource(6))
	for range 100 {
		m := mem.New()
		for range 40 {
			m.Put(randomCell(r), 1+r.Intn(5))
		}
		const seq = 8 // the greatest that randomCell has
		ahead := m.Fork()
		for range 40 {
			c := randomCell(r)
			c.Seq += seq + 1
			m.Put(c, 1+r.Intn(12))
		}
		for range 80 {
			key, at := randomKey(r), uint64(r.Intn(seq+1))
			a, aIs := m.Get(key, at)
			b, bIs := ahead.Get(key, at)
			want(t, "Get", a, b)
			want(t, "Get", aIs, bIs)
		}
	}
}

func TestRangesThatTouch(t *testing.T) { // P6.7
	r := rand.New(rand.NewSource(7))
	for range 100 {
		m := mem.New()
		for range r.Intn(60) {
			m.Put(randomCell(r), 1+r.Intn(5))
		}
		cells := m.Cells()
		for i := range max(len(cells)-1, 0) {
			a, b := cells[i], cells[i+1]
			want(t, "in order", a.Key < b.Key || a.Key == b.Key && a.Seq > b.Seq, true)
		}
		for range 20 {
			l := []string{randomKey(r), randomKey(r), randomKey(r)}
			slices.Sort(l)
			wantList(t, "both", slices.Concat(scanned(m, l[0], l[1]), scanned(m, l[1], l[2])), scanned(m, l[0], l[2]))
			wantList(t, "all", slices.Concat(scanned(m, "", l[1]), scanned(m, l[1], "")), cells)
		}
	}
}
