package pick_test

import (
	"cmp"
	"math/rand"
	"slices"
	"strconv"
	"testing"

	"atrium/api"
	"atrium/manifest"
	"atrium/merge"
	"atrium/pick"
)

// mayHave tells whether a level has what it may have, told once more.
func mayHave(v api.Version, o api.Options, level int) bool {
	if level >= len(v.Levels) || level == 6 {
		return true
	}
	if level == 0 {
		return len(v.Levels[0]) < o.Zero
	}
	bound, has := float64(o.Base), 0
	for i := 1; i < level; i++ {
		bound *= float64(o.Fan)
	}
	for _, f := range v.Levels[level] {
		has += f.Size
	}
	return float64(has) <= min(bound, 1<<40)
}

// hull is the least First and the greatest Last.
func hull(l []api.Sst) (string, string) {
	first, last := l[0].First, l[0].Last
	for _, f := range l {
		first, last = min(first, f.First), max(last, f.Last)
	}
	return first, last
}

// meets tells whether a table may have keys between two.
func meets(f api.Sst, first, last string) bool {
	return !(f.First > last || f.Last < first)
}

// jobOf is what Next should tell, told once more: table by table.
func jobOf(v api.Version, o api.Options) (api.Job, bool) {
	level := 0
	for level < 7 && mayHave(v, o, level) {
		level++
	}
	if level == 7 {
		return api.Job{}, false
	}
	moved := slices.Clone(v.Levels[level])
	if level > 0 {
		slices.SortFunc(moved, func(a, b api.Sst) int { return cmp.Compare(a.Number, b.Number) })
		moved = moved[:1]
	}
	j := api.Job{Level: level, Bottom: true}
	for _, f := range moved {
		j.Inputs = append(j.Inputs, api.At{Level: level, Number: f.Number})
	}
	first, last := hull(moved)
	all := moved
	for at, l := range v.Levels {
		for _, f := range l {
			if at == level+1 && meets(f, first, last) {
				j.Inputs = append(j.Inputs, api.At{Level: at, Number: f.Number})
				all = append(all, f)
			}
		}
	}
	first, last = hull(all)
	for at, l := range v.Levels {
		for _, f := range l {
			if at > level+1 && meets(f, first, last) {
				j.Bottom = false
			}
		}
	}
	return j, true
}

// wantAsk is that all that is told of a version is what is told once more.
func wantAsk(t *testing.T, v api.Version, o api.Options) {
	t.Helper()
	should, is := jobOf(v, o)
	j, ok := pick.Next(v, o)
	want(t, "Next", ok, is)
	want(t, "Rests is true just if Next is false", pick.Rests(v, o), !ok) // P12.5
	want(t, "Level", j.Level, should.Level)
	want(t, "Bottom", j.Bottom, should.Bottom)
	wantList(t, "Inputs", j.Inputs, should.Inputs)
	work := 0
	for level := range 9 {
		bytes := 0
		if level < len(v.Levels) {
			for _, f := range v.Levels[level] {
				bytes += f.Size
				work += f.Count * (6 - level)
			}
		}
		want(t, "Bytes", pick.Bytes(v, level), bytes)
	}
	want(t, "Work", pick.Work(v), work)
	if t.Failed() {
		t.Fatal("of", v, o)
	}
}

// key is a key of few.
func key(n int) string { return strconv.Itoa(100 + n) }

// apart is tables of a level above 0, whose numbers are drawn from those that are left.
func apart(r *rand.Rand, numbers *[]int, most int) []api.Sst {
	var l []api.Sst
	for at := r.Intn(30); at < 900 && len(l) < most; {
		end := at + r.Intn(40)
		l = append(l, api.Sst{Number: (*numbers)[0], Size: 1 + r.Intn(300), Count: 1 + r.Intn(20), First: key(at), Last: key(min(end, 899))})
		*numbers = (*numbers)[1:]
		at = end + 1 + r.Intn(60)
	}
	return l
}

// randomVersion is a version that may be.
func randomVersion(r *rand.Rand) api.Version {
	numbers := r.Perm(400)
	for i := range numbers {
		numbers[i]++
	}
	var v api.Version
	bare := r.Intn(2) * r.Intn(7) // so many levels have nothing, so that deeper ones come to their turn
	for level := range r.Intn(8) {
		most := r.Intn(9)
		if level < bare {
			most = 0
		}
		v.Levels = append(v.Levels, apart(r, &numbers, most))
	}
	if len(v.Levels) > 0 {
		zero := v.Levels[0]
		for i := range zero { // level 0's keys may be any
			if a, b := key(r.Intn(900)), key(r.Intn(900)); r.Intn(2) == 0 {
				zero[i].First, zero[i].Last = min(a, b), max(a, b)
			}
		}
		slices.SortFunc(zero, func(a, b api.Sst) int { return cmp.Compare(a.Number, b.Number) })
	}
	for len(v.Levels) > 0 && len(v.Levels[len(v.Levels)-1]) == 0 {
		v.Levels = v.Levels[:len(v.Levels)-1]
	}
	return v
}

// randomOptions is options by which levels have too much now and then.
func randomOptions(r *rand.Rand) api.Options {
	return options(1+r.Intn(16), 1+r.Intn([]int{10, 300, 3000}[r.Intn(3)]), 2+r.Intn([]int{2, 15}[r.Intn(2)]))
}

func TestAskPlays(t *testing.T) { // P12.1, P12.2, P12.4, P12.5
	r := rand.New(rand.NewSource(1))
	levels := map[int]int{}
	rest, bottom := 0, 0
	for range 20000 {
		v, o := randomVersion(r), randomOptions(r)
		want(t, "it may be", manifest.Check(api.State{Version: v, Next: 1 << 31}), api.OK)
		wantAsk(t, v, o)
		j, is := pick.Next(v, o)
		if !is {
			rest++
			continue
		}
		levels[j.Level]++
		if j.Bottom {
			bottom++
		}
	}
	for level := range 6 {
		want(t, "jobs of level "+strconv.Itoa(level), levels[level] > 50, true)
	}
	want(t, "some rest", rest > 50, true)
	want(t, "some are at the bottom, some not", bottom > 1000 && bottom < 19000-rest, true)
}

// taken is the tables that are a job's inputs.
func taken(v api.Version, j api.Job) []api.Sst {
	var l []api.Sst
	for _, a := range j.Inputs {
		for _, f := range v.Levels[a.Level] {
			if f.Number == a.Number {
				l = append(l, f)
			}
		}
	}
	return l
}

// wantClosed is P12.6: no table that is not among the inputs is in their way.
func wantClosed(t *testing.T, v api.Version, j api.Job) {
	t.Helper()
	first, last := hull(taken(v, j))
	for level, l := range v.Levels {
		for _, f := range l {
			is := slices.Contains(j.Inputs, api.At{Level: level, Number: f.Number})
			if level == 0 && j.Level == 0 {
				want(t, "all of level 0", is, true)
			}
			if level == j.Level+1 && meets(f, first, last) {
				want(t, "all that meet on the next level", is, true)
			}
			if level != j.Level && level != j.Level+1 {
				want(t, "none of another level", is, false)
			}
		}
	}
}

// merged is an edit that puts some tables in the place of a job's inputs: within their keys, with no more cells than they had.
func merged(r *rand.Rand, s api.State, j api.Job) api.Edit {
	in := taken(s.Version, j)
	e := api.Edit{Log: s.Log, Next: s.Next, Seq: s.Seq, Gone: j.Inputs}
	cells := 0
	for _, f := range in {
		cells += f.Count
	}
	first, last := hull(in)
	from, _ := strconv.Atoi(first)
	to, _ := strconv.Atoi(last)
	for range r.Intn(5) {
		if from > to || cells == 0 {
			break
		}
		end := from + r.Intn(to-from+1)
		if r.Intn(3) == 0 {
			end = to
		}
		n := min(1+r.Intn(cells), api.MaxCells)
		if r.Intn(2) == 0 {
			n = min(cells, api.MaxCells)
		}
		e.Added = append(e.Added, api.Placed{Level: j.Level + 1, Sst: api.Sst{Number: e.Next, Size: 1 + r.Intn(600), Count: n, First: strconv.Itoa(from), Last: strconv.Itoa(end)}})
		e.Next++
		cells -= n
		from = end + 1
	}
	return e
}

func TestJobsComeToAnEnd(t *testing.T) { // P12.5, P12.6: jobs one behind the other, until the version rests
	r := rand.New(rand.NewSource(2))
	jobs := 0
	for range 1500 {
		s := api.State{Version: randomVersion(r), Next: 1000}
		o := randomOptions(r)
		for {
			j, is := pick.Next(s.Version, o)
			if !is {
				break
			}
			wantAsk(t, s.Version, o)
			wantClosed(t, s.Version, j)
			n, e := manifest.Apply(s, merged(r, s, j))
			want(t, "what comes in their place fits between the others", e, api.OK)
			want(t, "the Work is less", pick.Work(n.Version) < pick.Work(s.Version), true)
			if t.Failed() {
				t.Fatal("of", s, o, j)
			}
			s = n
			jobs++
		}
		want(t, "it rests", pick.Rests(s.Version, o), true)
		for level := range 7 {
			want(t, "each level has what it may have", mayHave(s.Version, o, level), true)
		}
	}
	want(t, "many jobs", jobs > 5000, true)
}

// store is tables with their cells, as an engine would have them.
type store struct {
	state api.State
	cells map[int][]api.Cell
}

// lay is files of cells that are to come on a level, in pieces of so many bytes.
func (s *store) lay(e *api.Edit, level int, pieces [][]api.Cell) {
	for _, p := range pieces {
		f := api.Sst{Number: e.Next, Count: len(p), First: p[0].Key, Last: p[len(p)-1].Key}
		for _, c := range p {
			f.Size += len(c.Key) + len(c.Value) + 16
		}
		s.cells[f.Number] = p
		e.Added = append(e.Added, api.Placed{Level: level, Sst: f})
		e.Next++
	}
}

// do does an edit.
func (s *store) do(t *testing.T, e api.Edit) {
	t.Helper()
	n, no := manifest.Apply(s.state, e)
	want(t, "Apply", no, api.OK)
	s.state = n
}

// all is the cells of all tables.
func (s *store) all() []api.Cell {
	var lists [][]api.Cell
	for _, n := range manifest.Files(s.state) {
		lists = append(lists, s.cells[n])
	}
	return merge.Merge(lists...)
}

func TestNothingIsTorn(t *testing.T) { // P12.2, P12.3, P12.6: what is seen stays, also where a job at the bottom lets go of what is gone
	r := rand.New(rand.NewSource(3))
	for range 60 {
		s := &store{state: api.State{Next: 1}, cells: map[int][]api.Cell{}}
		o := options(1+r.Intn(4), 100+r.Intn(400), 2+r.Intn(2))
		seq := uint64(0)
		last := map[string]string{}
		deepest := 0
		for range 40 {
			batch := map[string]api.Cell{}
			for range 1 + r.Intn(12) {
				seq++
				c := api.Cell{Key: key(r.Intn(60)), Seq: seq, Value: strconv.Itoa(int(seq))}
				if r.Intn(3) == 0 {
					c.Value, c.Gone = "", true
				}
				batch[c.Key] = c
				last[c.Key] = c.Value
			}
			var l []api.Cell
			for _, c := range batch {
				l = append(l, c)
			}
			slices.SortFunc(l, func(a, b api.Cell) int { return cmp.Compare(a.Key, b.Key) })
			e := api.Edit{Next: s.state.Next, Seq: seq}
			s.lay(&e, 0, pick.Split(l, o))
			s.do(t, e)
			for j, is := pick.Next(s.state.Version, o); is; j, is = pick.Next(s.state.Version, o) {
				var lists [][]api.Cell
				for _, a := range j.Inputs {
					lists = append(lists, s.cells[a.Number])
				}
				left := merge.Drop(merge.Merge(lists...), seq, j.Bottom)
				e := api.Edit{Next: s.state.Next, Seq: seq, Gone: j.Inputs}
				s.lay(&e, j.Level+1, merge.Cut(left, 60+r.Intn(100)))
				s.do(t, e)
				deepest = max(deepest, j.Level+1)
			}
			for _, c := range merge.Visible(s.all(), seq) {
				want(t, "the value of "+c.Key, c.Value, last[c.Key])
			}
			n := 0
			for _, v := range last {
				if v != "" {
					n++
				}
			}
			want(t, "keys that are seen", len(merge.Visible(s.all(), seq)), n)
			want(t, "it rests", pick.Rests(s.state.Version, o), true)
			if t.Failed() {
				t.Fatal("of", s.state)
			}
		}
		want(t, "levels", deepest > 1, true)
	}
}
