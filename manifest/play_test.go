package manifest_test

import (
	"math/rand"
	"slices"
	"strconv"
	"testing"

	"atrium/api"
	"atrium/manifest"
)

// may tells whether a state may be, told once more: each file is held against each other one.
func may(s api.State) bool {
	l := s.Version.Levels
	if s.Log < 0 || s.Log > 1<<31-1 || s.Next < 1 || s.Next > 1<<31 || s.Log >= s.Next || s.Seq >= 1<<56 {
		return false
	}
	if len(l) > 7 || len(l) > 0 && len(l[len(l)-1]) == 0 {
		return false
	}
	all := manifest.Whole(s).Added
	if len(all) > 1024 {
		return false
	}
	for i, p := range all {
		f := p.Sst
		if f.Number < 1 || f.Number > 1<<31-1 || f.Number >= s.Next || f.Size < 1 || f.Size > 1<<20 || f.Count < 1 || f.Count > 1<<16 {
			return false
		}
		if f.First == "" || f.Last == "" || len(f.First) > 128 || len(f.Last) > 128 || f.First > f.Last {
			return false
		}
		for _, q := range all[:i] { // q stands ahead of p
			g := q.Sst
			if g.Number == f.Number || p.Level == q.Level && (p.Level == 0 && g.Number > f.Number || p.Level > 0 && (g.First >= f.First || g.Last >= f.First)) {
				return false
			}
		}
	}
	return true
}

// applied is what Apply should tell: files go and come one by one, each to behind those that stand ahead of it.
func applied(s api.State, e api.Edit) (api.State, bool) {
	if !may(s) || e.Log < s.Log || e.Next < s.Next || e.Seq < s.Seq {
		return api.State{}, false
	}
	n := cloneState(s)
	for _, a := range e.Gone {
		if a.Level < 0 || a.Level >= len(n.Version.Levels) {
			return api.State{}, false
		}
		l := n.Version.Levels[a.Level]
		i := slices.IndexFunc(l, func(f api.Sst) bool { return f.Number == a.Number })
		if i < 0 {
			return api.State{}, false
		}
		n.Version.Levels[a.Level] = slices.Delete(l, i, i+1)
	}
	for _, p := range e.Added {
		if p.Level < 0 || p.Level > 6 {
			return api.State{}, false
		}
		for len(n.Version.Levels) <= p.Level {
			n.Version.Levels = append(n.Version.Levels, nil)
		}
		ahead := 0
		for _, f := range n.Version.Levels[p.Level] {
			if p.Level == 0 && f.Number < p.Sst.Number || p.Level > 0 && f.First < p.Sst.First {
				ahead++
			}
		}
		n.Version.Levels[p.Level] = slices.Insert(n.Version.Levels[p.Level], ahead, p.Sst)
	}
	for len(n.Version.Levels) > 0 && len(n.Version.Levels[len(n.Version.Levels)-1]) == 0 {
		n.Version.Levels = n.Version.Levels[:len(n.Version.Levels)-1]
	}
	n.Log, n.Next, n.Seq = e.Log, e.Next, e.Seq
	return n, may(n)
}

// key is a random key of few.
func key(r *rand.Rand) string {
	return strconv.Itoa(10 + r.Intn(90))
}

// randomFile is a file that may be, but for now and then one.
func randomFile(r *rand.Rand, number int) api.Sst {
	a, b := key(r), key(r)
	if r.Intn(3) > 0 {
		b = a + string(rune('a'+r.Intn(3)))
	}
	if a > b && r.Intn(50) > 0 {
		a, b = b, a
	}
	f := api.Sst{Number: number, Size: 1 + r.Intn(100), Count: 1 + r.Intn(10), First: a, Last: b}
	if r.Intn(200) == 0 {
		f.Count = 0
	}
	return f
}

// randomEdit is an edit that can often be done.
func randomEdit(r *rand.Rand, s api.State) api.Edit {
	e := api.Edit{Log: s.Log, Next: s.Next + r.Intn(4), Seq: s.Seq + uint64(r.Intn(3))}
	if r.Intn(3) == 0 {
		e.Log += r.Intn(s.Next-s.Log) + r.Intn(2)
	}
	if r.Intn(30) == 0 {
		e.Log, e.Next, e.Seq = e.Log-r.Intn(2), e.Next-r.Intn(2), e.Seq-uint64(r.Intn(2))
	}
	for _, p := range manifest.Whole(s).Added {
		if r.Intn(5) == 0 {
			e.Gone = append(e.Gone, at(p.Level, p.Sst.Number))
			if r.Intn(20) == 0 {
				e.Gone = append(e.Gone, at(p.Level+r.Intn(3)-1, p.Sst.Number))
			}
			if r.Intn(4) == 0 { // it goes and comes
				e.Added = append(e.Added, comes(r.Intn(3), p.Sst))
			}
		}
	}
	r.Shuffle(len(e.Gone), func(i, j int) { e.Gone[i], e.Gone[j] = e.Gone[j], e.Gone[i] })
	for range r.Intn(4) {
		number := s.Next + r.Intn(max(e.Next-s.Next, 0)+1)
		if r.Intn(8) == 0 {
			number = r.Intn(s.Next + 1)
		}
		level := r.Intn(5)
		if r.Intn(40) == 0 {
			level = r.Intn(10) - 1
		}
		e.Added = append(e.Added, comes(level, randomFile(r, number)))
	}
	return e
}

func TestApplyPlays(t *testing.T) { // P11.1, P11.3, P11.5, P11.7
	r := rand.New(rand.NewSource(7))
	done, refused, most := 0, 0, 0
	for range 300 {
		s := api.State{Next: 1}
		first := manifest.Whole(s)
		recs := recordsOf(first)
		for range 40 {
			e := randomEdit(r, s)
			should, is := applied(s, e)
			n, no := manifest.Apply(s, e)
			want(t, "Apply", no == api.OK, is)
			if t.Failed() {
				t.Fatal("of", s, e, "told", no, n, "not", is, should)
			}
			rec, not := manifest.Encode(e)
			if not == api.OK {
				wantRecord(t, "in a play", e)
			}
			if !is {
				refused++
				want(t, "Apply", no, api.ErrEdit)
				wantState(t, "Apply", n, api.State{})
				if not == api.OK && r.Intn(5) == 0 {
					b, _ := logOf(t, append(slices.Clone(recs), rec)...)
					refuseLoad(t, "an edit that can't be done", b)
				}
				continue
			}
			done++
			wantState(t, "Apply", n, should)
			want(t, "Check", manifest.Check(n), api.OK)
			s = n
			recs = append(recs, rec)
			most = max(most, len(manifest.Files(s)))
		}
		b, ends := logOf(t, recs...)
		wantLoad(t, "the records of a play", b, s, ends[len(ends)-1])
		again, no := manifest.Apply(api.State{Next: 1}, manifest.Whole(s))
		want(t, "Apply of Whole", no, api.OK)
		wantState(t, "Apply of Whole", again, s)
	}
	want(t, "both are met", done > 2000 && refused > 2000 && most > 8, true)
}

// shaken is a state with something about it changed.
func shaken(r *rand.Rand, s api.State) api.State {
	s = cloneState(s)
	levels := s.Version.Levels
	if len(levels) == 0 {
		return s
	}
	l := levels[r.Intn(len(levels))]
	other := levels[r.Intn(len(levels))]
	switch {
	case len(l) == 0 || len(other) == 0:
		s.Next -= r.Intn(3)
	case r.Intn(6) == 0:
		l[r.Intn(len(l))].Number = other[r.Intn(len(other))].Number
	case r.Intn(5) == 0:
		i, j := r.Intn(len(l)), r.Intn(len(l))
		l[i], l[j] = l[j], l[i]
	case r.Intn(4) == 0:
		l[r.Intn(len(l))].Last = key(r)
	case r.Intn(3) == 0:
		l[r.Intn(len(l))].First = key(r)
	case r.Intn(2) == 0:
		s.Next = l[r.Intn(len(l))].Number + r.Intn(3)
	default:
		s.Version.Levels = levels[:r.Intn(len(levels)+1)]
	}
	return s
}

// randomState is a state that may be.
func randomState(r *rand.Rand) api.State {
	s := api.State{Next: 1}
	for range 12 {
		if n, e := manifest.Apply(s, randomEdit(r, s)); e == api.OK {
			s = n
		}
	}
	return s
}

func TestCheckPlays(t *testing.T) { // P11.1
	r := rand.New(rand.NewSource(8))
	is, not := 0, 0
	for range 4000 {
		s := shaken(r, randomState(r))
		should := may(s)
		wantMay(t, "shaken", s, should)
		if should {
			is++
		} else {
			not++
		}
		if t.Failed() {
			t.Fatal("of", s)
		}
	}
	want(t, "both are met", is > 500 && not > 500, true)
}

func TestOverlapPlays(t *testing.T) { // P11.4, P11.6
	r := rand.New(rand.NewSource(9))
	met := 0
	for range 500 {
		s := randomState(r)
		for level, l := range s.Version.Levels {
			for range 10 {
				from, to := key(r), key(r)
				got := manifest.Overlap(s, level, from, to)
				i := 0
				for _, f := range l { // in order, and all of them
					if f.First <= to && from <= f.Last {
						want(t, "Overlap", i < len(got) && got[i] == f, true)
						i++
					}
				}
				want(t, "Overlap", len(got), i)
				met += i
				one := manifest.Overlap(s, level, from, from)
				want(t, "at most one file of a level above 0 has a key", level == 0 || len(one) <= 1, true)
			}
		}
	}
	want(t, "some are met", met > 1000, true)
}
