package merge_test

import (
	"cmp"
	"math/rand"
	"slices"
	"strconv"
	"testing"

	"atrium/api"
	"atrium/merge"
)

// order is the order of cells, told once more.
func order(a, b api.Cell) int {
	return cmp.Or(cmp.Compare(a.Key, b.Key), cmp.Compare(b.Seq, a.Seq))
}

// joined is what Merge should tell of lists in order: all cells, sorted so that those alike keep the order of their lists, of which the first stays.
func joined(lists ...[]api.Cell) []api.Cell {
	all := slices.Concat(lists...)
	slices.SortStableFunc(all, order)
	return slices.CompactFunc(all, func(a, b api.Cell) bool { return order(a, b) == 0 })
}

// newest is a key's newest cell up to a moment, found by asking each cell.
func newest(l []api.Cell, key string, seq uint64) (api.Cell, bool) {
	best, is := api.Cell{}, false
	for _, c := range l {
		if c.Key == key && c.Seq <= seq && (!is || c.Seq > best.Seq) {
			best, is = c, true
		}
	}
	return best, is
}

// seen is what should be visible.
func seen(l []api.Cell, seq uint64) []api.Cell {
	var told []api.Cell
	for _, c := range l {
		if best, is := newest(l, c.Key, seq); is && best == c && !c.Gone {
			told = append(told, c)
		}
	}
	return told
}

// left is what Drop should leave.
func left(l []api.Cell, oldest uint64, bottom bool) []api.Cell {
	var told []api.Cell
	for _, c := range l {
		best, is := newest(l, c.Key, oldest)
		if c.Seq > oldest || is && best == c && !(bottom && c.Gone) {
			told = append(told, c)
		}
	}
	return told
}

// weight is how many bytes cells have.
func weight(l []api.Cell) int {
	sum := 0
	for _, c := range l {
		sum += len(c.Key) + len(c.Value) + 16
	}
	return sum
}

// wantPieces is that pieces are a list's, and each as long as can be.
func wantPieces(t *testing.T, l []api.Cell, size int) {
	t.Helper()
	pieces := merge.Cut(l, size)
	wantList(t, "one behind the other", slices.Concat(pieces...), l) // P10.7
	for i, p := range pieces {
		want(t, "a piece has cells", len(p) > 0, true)
		if weight(p) > size {
			want(t, "one key alone", p[0].Key, p[len(p)-1].Key)
		}
		if i == len(pieces)-1 {
			break
		}
		next := pieces[i+1]
		want(t, "a key in two pieces", p[len(p)-1].Key == next[0].Key, false)
		n := 0
		for n < len(next) && next[n].Key == next[0].Key {
			n++
		}
		want(t, "the next key has room", weight(p)+weight(next[:n]) <= size, false)
	}
}

// randomList is a list in order.
func randomList(r *rand.Rand, most int) []api.Cell {
	var l []api.Cell
	for range r.Intn(most + 1) {
		c := api.Cell{Key: []string{"", "\x00", "a", "ab", "b", "\xff"}[r.Intn(6)], Seq: uint64(r.Intn(8)), Gone: r.Intn(3) == 0}
		if r.Intn(9) == 0 {
			c.Seq = r.Uint64() >> r.Intn(64)
		}
		if !c.Gone {
			c.Value = strconv.Itoa(r.Intn(1 << r.Intn(30)))
		}
		l = append(l, c)
	}
	return joined(l)
}

func TestMergePlays(t *testing.T) { // P10.2, P10.6
	r := rand.New(rand.NewSource(1))
	for range 3000 {
		var lists [][]api.Cell
		for range r.Intn(7) {
			lists = append(lists, randomList(r, 8))
		}
		should := joined(lists...)
		wantMerge(t, "of lists", should, lists...)
		want(t, "in order", merge.Sorted(should), true)
		n := r.Intn(len(lists) + 1) // merging a merged beginning with the rest
		wantMerge(t, "of a merged beginning", should, slices.Concat([][]api.Cell{merge.Merge(lists[:n]...)}, lists[n:])...)
		if len(slices.Concat(lists...)) == len(should) { // no two alike
			r.Shuffle(len(lists), func(i, j int) { lists[i], lists[j] = lists[j], lists[i] })
			wantMerge(t, "in another order", should, lists...)
		}
		if t.Failed() {
			t.Fatal("of", lists)
		}
	}
}

func TestMergeWhateverOrder(t *testing.T) { // P10.6: lists no two of which have cells alike
	r := rand.New(rand.NewSource(2))
	for range 500 {
		whole := randomList(r, 30)
		lists := make([][]api.Cell, 1+r.Intn(6))
		for _, c := range whole {
			n := r.Intn(len(lists))
			lists[n] = append(lists[n], c)
		}
		for range 5 {
			r.Shuffle(len(lists), func(i, j int) { lists[i], lists[j] = lists[j], lists[i] })
			wantMerge(t, "of what was dealt out", whole, lists...)
		}
	}
}

func TestUnsortedPlays(t *testing.T) { // P10.1 to P10.4: some in order, some not
	r := rand.New(rand.NewSource(3))
	wrong := 0
	for range 3000 {
		l := randomList(r, 6)
		if n := len(l); n > 1 && r.Intn(2) == 0 {
			i, j := r.Intn(n), r.Intn(n)
			l[i], l[j] = l[j], l[i]
		}
		if len(l) > 0 && r.Intn(4) == 0 {
			i := r.Intn(len(l))
			l = slices.Insert(l, i, l[i])
		}
		is := slices.Equal(l, joined(l))
		want(t, "Sorted", merge.Sorted(l), is)
		if !is {
			wrong++
			wantMerge(t, "of one not in order", nil, randomList(r, 3), l, randomList(r, 3))
			wantList(t, "Visible", merge.Visible(l, uint64(r.Intn(9))), nil)
			wantList(t, "Drop", merge.Drop(l, uint64(r.Intn(9)), r.Intn(2) == 0), nil)
			wantLists(t, "Cut", merge.Cut(l, 1+r.Intn(50)), nil)
		}
	}
	want(t, "both are met", wrong > 500 && wrong < 2500, true)
}

// moments is 0, each cell's Seq, one below and one above, and the greatest ones.
func moments(l []api.Cell) []uint64 {
	all := []uint64{0, api.MaxSeq, 1<<64 - 1}
	for _, c := range l {
		all = append(all, c.Seq, c.Seq-1, c.Seq+1)
	}
	slices.Sort(all)
	return slices.Compact(all)
}

func TestSeenPlays(t *testing.T) { // P10.3, P10.5
	r := rand.New(rand.NewSource(4))
	for range 400 {
		l := randomList(r, 20)
		for _, seq := range moments(l) {
			wantList(t, "Visible", merge.Visible(l, seq), seen(l, seq))
			for _, bottom := range []bool{false, true} {
				kept := merge.Drop(l, seq, bottom)
				wantList(t, "Drop", kept, left(l, seq, bottom))
				want(t, "in order", merge.Sorted(kept), true)
				wantList(t, "Drop of it", merge.Drop(kept, seq, bottom), kept)
				for _, later := range moments(l) {
					if later >= seq {
						wantList(t, "nobody sees it", merge.Visible(kept, later), merge.Visible(l, later))
					}
				}
			}
		}
		if t.Failed() {
			t.Fatal("of", l)
		}
	}
}

func TestCutPlays(t *testing.T) { // P10.4, P10.7
	r := rand.New(rand.NewSource(5))
	for range 2000 {
		l := randomList(r, 20)
		size := 1 + r.Intn([]int{30, 100, 600}[r.Intn(3)])
		if r.Intn(3) == 0 && len(l) > 0 {
			size = weight(l[:1+r.Intn(len(l))]) // pieces of just size bytes
		}
		wantPieces(t, l, size)
		if t.Failed() {
			t.Fatal("of", l, size)
		}
	}
}
