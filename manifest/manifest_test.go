package manifest_test

import (
	"fmt"
	"math"
	"slices"
	"strconv"
	"strings"
	"testing"

	"atrium/api"
	"atrium/manifest"
)

// differs fails the test; of what is long the begin is told.
func differs(t *testing.T, what string, got, should any) {
	t.Helper()
	t.Errorf("%s: %.300s, not %.300s", what, fmt.Sprint(got), fmt.Sprint(should))
}

// want fails the test, if what was told is not what should be.
func want[T comparable](t *testing.T, what string, got, should T) {
	t.Helper()
	if got != should {
		differs(t, what, got, should)
	}
}

// wantList is want of lists.
func wantList[T comparable](t *testing.T, what string, got, should []T) {
	t.Helper()
	if !slices.Equal(got, should) {
		differs(t, what, got, should)
	}
}

// sameState tells whether two states are the same; nil and the empty list are.
func sameState(a, b api.State) bool {
	return a.Log == b.Log && a.Next == b.Next && a.Seq == b.Seq && slices.EqualFunc(a.Version.Levels, b.Version.Levels, slices.Equal[[]api.Sst])
}

// wantState is want of states.
func wantState(t *testing.T, what string, got, should api.State) {
	t.Helper()
	if !sameState(got, should) {
		differs(t, what, got, should)
	}
}

// sameEdit tells whether two edits are the same.
func sameEdit(a, b api.Edit) bool {
	return a.Log == b.Log && a.Next == b.Next && a.Seq == b.Seq && slices.Equal(a.Gone, b.Gone) && slices.Equal(a.Added, b.Added)
}

// wantEdit is want of edits.
func wantEdit(t *testing.T, what string, got, should api.Edit) {
	t.Helper()
	if !sameEdit(got, should) {
		differs(t, what, got, should)
	}
}

// cloneState is a state that shares nothing with another one.
func cloneState(s api.State) api.State {
	s.Version.Levels = slices.Clone(s.Version.Levels)
	for i, l := range s.Version.Levels {
		s.Version.Levels[i] = slices.Clone(l)
	}
	return s
}

// file is a table's file.
func file(number int, first, last string) api.Sst {
	return api.Sst{Number: number, Size: 100 + number%7, Count: 10 + number%3, First: first, Last: last}
}

// state is a state of levels, whose numbers are high enough for small files.
func state(levels ...[]api.Sst) api.State {
	return api.State{Version: api.Version{Levels: levels}, Log: 3, Next: 5000, Seq: 77}
}

// sample is a state that may be, with an empty level between.
func sample() api.State {
	return state(
		[]api.Sst{file(5, "a", "m"), file(6, "k", "z"), file(9, "b", "c")},
		[]api.Sst{file(7, "a", "b"), file(2, "c", "c"), file(4, "d", "f")},
		nil,
		[]api.Sst{file(1, "f", "g")},
	)
}

// wantMay is what Check should tell; and, of what may not be, that no edit of it can be done.
func wantMay(t *testing.T, what string, s api.State, may bool) {
	t.Helper()
	e := manifest.Check(s)
	edit := api.Edit{Log: s.Log, Next: s.Next, Seq: s.Seq}
	n, no := manifest.Apply(s, edit)
	if may {
		want(t, "Check: "+what, e, api.OK)
		want(t, "Apply: "+what, no, api.OK)
		wantState(t, "Apply of nothing: "+what, n, s)
		return
	}
	want(t, "Check: "+what, e, api.ErrEdit)
	want(t, "Apply: "+what, no, api.ErrEdit)
	wantState(t, "Apply: "+what, n, api.State{})
}

// wantFile is whether a file may be, on level 0 and on others.
func wantFile(t *testing.T, what string, f api.Sst, may bool) {
	t.Helper()
	for level := range api.MaxLevels {
		levels := make([][]api.Sst, level+1)
		levels[level] = []api.Sst{f}
		s := state(levels...)
		s.Next = api.MaxNumber + 1
		wantMay(t, what+" on level "+strconv.Itoa(level), s, may)
		n, e := manifest.Apply(api.State{Next: 1}, manifest.Whole(s))
		if may {
			want(t, "it comes: "+what, e, api.OK)
			wantState(t, "it comes: "+what, n, s)
		} else {
			want(t, "it comes: "+what, e, api.ErrEdit)
			wantState(t, "it comes: "+what, n, api.State{})
		}
	}
}

func TestFilesThatMayBe(t *testing.T) { // P11.1: each field at its least and greatest value, and one beyond
	long := strings.Repeat("k", api.MaxKey)
	good := file(8, "c", "f")
	change := func(f func(*api.Sst)) api.Sst {
		g := good
		f(&g)
		return g
	}
	wantFile(t, "an ordinary one", good, true)
	for n, may := range map[int]bool{1: true, 2: true, api.MaxNumber: true, 0: false, -1: false, api.MaxNumber + 1: false, math.MinInt: false, math.MaxInt: false, 1<<32 + 1: false} {
		wantFile(t, "Number "+strconv.Itoa(n), change(func(f *api.Sst) { f.Number = n }), may)
	}
	for n, may := range map[int]bool{1: true, api.MaxFile: true, 0: false, -1: false, api.MaxFile + 1: false, math.MinInt: false, math.MaxInt: false} {
		wantFile(t, "Size "+strconv.Itoa(n), change(func(f *api.Sst) { f.Size = n }), may)
	}
	for n, may := range map[int]bool{1: true, api.MaxCells: true, 0: false, -1: false, api.MaxCells + 1: false, math.MinInt: false, math.MaxInt: false} {
		wantFile(t, "Count "+strconv.Itoa(n), change(func(f *api.Sst) { f.Count = n }), may)
	}
	for _, x := range []struct {
		first, last string
		may         bool
	}{
		{"c", "c", true}, {"c", "ca", true}, {"\x00", "\x00", true}, {"\x00", "\xff", true}, {"\x7f", "\x80", true}, {long, long, true}, {"a", long, true}, {long[1:], long, true},
		{"", "f", false}, {"", "", false}, {"c", "", false}, {long + "k", "z", false}, {"c", long + "k", false}, {long + "k", long + "k", false}, {long + "a", long + "k", false},
		{"d", "c", false}, {"ca", "c", false}, {"\x80", "\x7f", false}, {long, long[1:], false}, {"c\x00", "c", false},
	} {
		wantFile(t, strconv.Quote(x.first)+" to "+strconv.Quote(x.last), change(func(f *api.Sst) { f.First, f.Last = x.first, x.last }), x.may)
	}
}

func TestNumbersThatMayBe(t *testing.T) { // P11.1: each number at its least and greatest value, and one beyond
	const most = api.MaxNumber
	for _, x := range []struct {
		what      string
		log, next int
		seq       uint64
		may       bool
	}{
		{"the least", 0, 1, 0, true}, {"the greatest", most, most + 1, api.MaxSeq, true}, {"Next far above Log", 0, most + 1, 5, true}, {"Next one above Log", 8, 9, 5, true},
		{"Log below 0", -1, 1, 0, false}, {"Log below 0", math.MinInt, 1, 0, false}, {"Log above", most + 1, most + 1, 0, false}, {"Log above", most + 1, most + 2, 0, false}, {"Log above", math.MaxInt, math.MaxInt, 0, false},
		{"Next 0", 0, 0, 0, false}, {"Next below 0", 0, -1, 0, false}, {"Next and Log below 0", -1, 0, 0, false}, {"Next and Log below 0", -2, -1, 0, false}, {"Next below 0", 0, math.MinInt, 0, false},
		{"Next above", 0, most + 2, 0, false}, {"Next above", most, most + 2, 0, false}, {"Next above", 0, math.MaxInt, 0, false},
		{"Next is Log", 1, 1, 0, false}, {"Next is Log", 8, 8, 5, false}, {"Next below Log", 9, 8, 5, false}, {"Next is Log", most, most, 0, false},
		{"Seq above", 0, 1, api.MaxSeq + 1, false}, {"Seq above", 0, 1, math.MaxUint64, false}, {"Seq the greatest", 0, 1, api.MaxSeq, true},
	} {
		s := api.State{Log: x.log, Next: x.next, Seq: x.seq}
		wantMay(t, x.what, s, x.may)
		n, e := manifest.Apply(api.State{Next: 1}, manifest.Whole(s))
		want(t, "Apply: "+x.what, e == api.OK, x.may)
		if x.may {
			wantState(t, "Apply: "+x.what, n, s)
		}
	}
	wantMay(t, "the zero value", api.State{}, false)
	for level := range 3 {
		levels := make([][]api.Sst, level+1)
		levels[level] = []api.Sst{file(7, "a", "b"), file(8, "c", "d")}
		for next, may := range map[int]bool{7: false, 8: false, 9: true, 10: true} {
			wantMay(t, "Next and Numbers", api.State{Version: api.Version{Levels: levels}, Next: next}, may)
		}
		levels[level] = []api.Sst{file(most, "a", "b")}
		wantMay(t, "Next and the greatest Number", api.State{Version: api.Version{Levels: levels}, Next: most}, false)
		wantMay(t, "Next and the greatest Number", api.State{Version: api.Version{Levels: levels}, Next: most + 1}, true)
	}
	wantMay(t, "Log above all Numbers", api.State{Version: api.Version{Levels: [][]api.Sst{{file(2, "a", "b")}}}, Log: 8, Next: 9}, true)
	wantMay(t, "Log is a file's Number", api.State{Version: api.Version{Levels: [][]api.Sst{{file(2, "a", "b")}}}, Log: 2, Next: 3}, true)
}

func TestLevelsThatMayBe(t *testing.T) { // P11.1
	one := func(n int) []api.Sst { return []api.Sst{file(n, "a", "b")} }
	wantMay(t, "no level", state(), true)
	wantMay(t, "no level", api.State{Version: api.Version{Levels: [][]api.Sst{}}, Next: 1}, true)
	wantMay(t, "an ordinary one", sample(), true)
	wantMay(t, "MaxLevels", state(one(1), one(2), one(3), one(4), one(5), one(6), one(7)), true)
	wantMay(t, "one more", state(one(1), one(2), one(3), one(4), one(5), one(6), one(7), one(8)), false)
	wantMay(t, "many more", state(append(make([][]api.Sst, 1000), one(1))...), false)
	for n := 1; n <= 9; n++ {
		wantMay(t, "empty ones", state(make([][]api.Sst, n)...), false)
		levels := make([][]api.Sst, n)
		levels[n-1] = one(4)
		wantMay(t, "empty ones ahead", state(levels...), n <= api.MaxLevels)
		wantMay(t, "an empty last one", state(append(levels, nil)...), false)
		wantMay(t, "an empty last one", state(append(levels, []api.Sst{})...), false)
	}
	wantMay(t, "an empty one between", state(one(1), nil, one(2)), true)
	wantMay(t, "an empty one between", state(one(1), one(3), []api.Sst{}, nil, one(2)), true)
	wantMay(t, "an empty first one", state(nil, one(2)), true)
}

// many is so many files with rising numbers and keys, apart from one another.
func many(from, n int) []api.Sst {
	var l []api.Sst
	for i := from; i < from+n; i++ {
		key := "key" + strconv.Itoa(100000+i)
		l = append(l, file(i, key, key+"x"))
	}
	return l
}

func TestMaxTables(t *testing.T) { // P11.1
	for _, more := range []int{-1, 0, 1, 2, 500} {
		n := api.MaxTables + more
		may := more <= 0
		for level := range api.MaxLevels {
			levels := make([][]api.Sst, level+1)
			levels[level] = many(1, n)
			wantMay(t, "on one level", state(levels...), may)
		}
		wantMay(t, "on two levels", state(many(1, 500), many(501, n-500)), may)
		var all [][]api.Sst
		for i := range 6 {
			all = append(all, many(1+i*100, 100))
		}
		wantMay(t, "on all levels", state(append(all, many(601, n-600))...), may)
	}
	full := state(many(1, 24), many(25, 1000))
	comes := api.Edit{Log: 3, Next: 5000, Seq: 77, Added: []api.Placed{{Level: 2, Sst: file(2000, "a", "b")}}}
	_, e := manifest.Apply(full, comes)
	want(t, "one comes more", e, api.ErrEdit)
	comes.Gone = []api.At{{Level: 1, Number: 500}}
	n, e := manifest.Apply(full, comes)
	want(t, "one comes, one goes", e, api.OK)
	want(t, "files", len(manifest.Files(n)), api.MaxTables)
}

func TestNoTwoOfOneNumber(t *testing.T) { // P11.1
	wantMay(t, "on level 0", state([]api.Sst{file(2, "a", "b"), file(2, "c", "d")}), false)
	wantMay(t, "on level 0, alike", state([]api.Sst{file(2, "a", "b"), file(2, "a", "b")}), false)
	for level := 1; level < api.MaxLevels; level++ {
		levels := make([][]api.Sst, level+1)
		levels[level] = []api.Sst{file(2, "a", "b"), file(2, "c", "d")}
		wantMay(t, "on one level", state(levels...), false)
		levels[level] = []api.Sst{file(2, "a", "b"), file(1, "c", "d"), file(2, "e", "f")}
		wantMay(t, "on one level, not neighbours", state(levels...), false)
		levels[level] = []api.Sst{file(2, "a", "b"), file(1, "c", "d"), file(3, "e", "f")}
		wantMay(t, "unlike", state(levels...), true)
		for other := range level {
			levels[other] = []api.Sst{file(3, "x", "y")}
			wantMay(t, "on two levels", state(levels...), false)
			levels[other] = []api.Sst{file(4, "x", "y")}
			wantMay(t, "unlike on two levels", state(levels...), true)
			levels[other] = nil
		}
	}
}

func TestOrderOfLevels(t *testing.T) { // P11.1
	a, b, c := file(2, "a", "c"), file(3, "d", "f"), file(4, "g", "i")
	wantMay(t, "level 0 rises", state([]api.Sst{a, b, c}), true)
	for _, l := range [][]api.Sst{{a, c, b}, {b, a, c}, {b, c, a}, {c, a, b}, {c, b, a}, {b, a}} {
		wantMay(t, "level 0 does not rise", state(l), false)
	}
	wantMay(t, "level 0's keys may be any", state([]api.Sst{file(2, "x", "z"), file(3, "a", "z"), file(4, "a", "z"), file(9, "b", "b")}), true)
	for level := 1; level < api.MaxLevels; level++ {
		on := func(l ...api.Sst) api.State {
			levels := make([][]api.Sst, level+1)
			levels[level] = l
			return state(levels...)
		}
		wantMay(t, "rises", on(a, b, c), true)
		wantMay(t, "rises, whatever the Numbers", on(file(9, "a", "c"), file(1, "d", "f"), file(5, "g", "i")), true)
		wantMay(t, "just apart", on(file(1, "a", "c"), file(2, "c\x00", "d")), true)
		wantMay(t, "just apart", on(file(1, "a", "\x7f"), file(2, "\x80", "\xff")), true)
		for _, l := range [][]api.Sst{{a, c, b}, {b, a, c}, {c, b, a}, {b, a}} {
			wantMay(t, "does not rise", on(l...), false)
		}
		wantMay(t, "touch", on(file(1, "a", "c"), file(2, "c", "d")), false)
		wantMay(t, "touch, one key", on(file(1, "a", "a"), file(2, "a", "a")), false)
		wantMay(t, "touch at the end", on(a, b, c, file(5, "i", "j")), false)
		wantMay(t, "overlap", on(file(1, "a", "d"), file(2, "c", "f")), false)
		wantMay(t, "one within another", on(file(1, "a", "z"), file(2, "c", "f")), false)
		wantMay(t, "the same First", on(file(1, "a", "b"), file(2, "a", "c")), false)
		wantMay(t, "apart as bytes", on(file(1, "\x80", "\x81"), file(2, "\x7f", "\x7f")), false)
	}
}

func TestFilesOf(t *testing.T) { // P11.4
	wantList(t, "none", manifest.Files(api.State{Next: 1}), nil)
	wantList(t, "the sample's", manifest.Files(sample()), []int{1, 2, 4, 5, 6, 7, 9})
	wantList(t, "one", manifest.Files(state(nil, nil, []api.Sst{file(api.MaxNumber, "a", "b")})), []int{api.MaxNumber})
	all := manifest.Files(state(many(525, 500), many(1, 524)))
	want(t, "how many", len(all), api.MaxTables)
	for i, n := range all {
		want(t, "rising", n, i+1)
	}
}

func TestOverlap(t *testing.T) { // P11.4
	s := sample()
	for _, x := range []struct {
		level    int
		from, to string
		numbers  []int
	}{
		{0, "a", "z", []int{5, 6, 9}}, {0, "n", "z", []int{6}}, {0, "m", "m", []int{5, 6}}, {0, "k", "k", []int{5, 6}}, {0, "j", "jz", []int{5}}, {0, "b", "b", []int{5, 9}},
		{0, "c", "c", []int{5, 9}}, {0, "c\x00", "c\x00", []int{5}}, {0, "az", "azz", []int{5}}, {0, "{", "~", nil}, {0, "A", "Z", nil}, {0, "z", "zz", []int{6}}, {0, "z\x00", "zz", nil},
		{1, "a", "z", []int{7, 2, 4}}, {1, "b", "d", []int{7, 2, 4}}, {1, "b\x00", "bz", nil}, {1, "b\x00", "c", []int{2}}, {1, "c", "cz", []int{2}}, {1, "c", "d", []int{2, 4}},
		{1, "c\x00", "cz", nil}, {1, "f", "f", []int{4}}, {1, "f\x00", "z", nil}, {1, "e", "e", []int{4}}, {1, "A", "Z", nil}, {1, "A", "a", []int{7}}, {1, "A", "`", nil},
		{2, "a", "z", nil}, {3, "a", "z", []int{1}}, {3, "g", "z", []int{1}}, {3, "a", "f", []int{1}}, {3, "ff", "ff", []int{1}}, {3, "a", "ezz", nil}, {3, "g\x00", "z", nil},
		{0, "", "\xff", []int{5, 6, 9}}, {1, "", "b", []int{7}}, {0, "a", "", nil}, {0, "", "", nil}, {1, "", "", nil}, // no key is up to nothing
		{0, "z", "a", []int{}}, {0, "m", "b", []int{5}}, {0, "m", "k", []int{5, 6}}, {0, "l", "b", []int{5}}, {1, "f", "d", []int{4}}, {1, "d", "c", nil}, {1, "z", "a", nil}, // from above to: what First and Last say
		{4, "a", "z", nil}, {6, "a", "z", nil}, {7, "a", "z", nil}, {-1, "a", "z", nil}, {math.MaxInt, "a", "z", nil}, {math.MinInt, "a", "z", nil},
	} {
		var got []int
		for _, f := range manifest.Overlap(s, x.level, x.from, x.to) {
			want(t, "a file of the level", slices.Contains(s.Version.Levels[x.level], f), true)
			got = append(got, f.Number)
		}
		wantList(t, "Overlap "+strconv.Itoa(x.level)+" "+strconv.Quote(x.from)+" "+strconv.Quote(x.to), got, x.numbers)
	}
	for level := -1; level < 3; level++ {
		wantList(t, "of no level", manifest.Overlap(api.State{Next: 1}, level, "a", "z"), nil)
	}
}

func TestAskedStays(t *testing.T) { // R3
	s := sample()
	was := cloneState(s)
	spare := append(s.Version.Levels[0], file(99, "q", "r"))
	s.Version.Levels[0] = spare[:3]
	for level := -1; level < 6; level++ {
		l := manifest.Overlap(s, level, "a", "z")
		spoil(l)
	}
	spoil(manifest.Files(s))
	spoil(manifest.Whole(s).Added)
	manifest.Check(s)
	wantState(t, "what was handed in", s, was)
	want(t, "what lies behind a list", spare[3], file(99, "q", "r"))
	one, two := manifest.Files(s), manifest.Files(s)
	spoil(one)
	wantList(t, "another answer", two, []int{1, 2, 4, 5, 6, 7, 9})
	a, b := manifest.Overlap(s, 0, "a", "z"), manifest.Overlap(s, 0, "a", "z")
	spoil(a)
	wantList(t, "another answer", b, was.Version.Levels[0])
}

// spoil fills a list, and the room behind it, with other things.
func spoil[T any](l []T) {
	l = l[:cap(l)]
	for i := range l {
		var zero T
		l[i] = zero
	}
}

func TestExamples(t *testing.T) { // the chapter's example
	come := api.Edit{Log: 1, Next: 3, Seq: 9, Added: []api.Placed{{Level: 0, Sst: file(2, "a", "f")}}}
	s, e := manifest.Apply(api.State{Next: 1}, come)
	want(t, "Apply", e, api.OK)
	wantState(t, "a version of one level", s, api.State{Version: api.Version{Levels: [][]api.Sst{{file(2, "a", "f")}}}, Log: 1, Next: 3, Seq: 9})
	it := api.At{Level: 0, Number: 2}
	_, e = manifest.Apply(s, api.Edit{Log: 1, Next: 3, Seq: 9, Gone: []api.At{it, it}})
	want(t, "Gone of it twice", e, api.ErrEdit)
	s, e = manifest.Apply(s, api.Edit{Log: 1, Next: 3, Seq: 9, Gone: []api.At{it}})
	want(t, "Gone of it", e, api.OK)
	_, e = manifest.Apply(s, api.Edit{Log: 1, Next: 3, Seq: 9, Gone: []api.At{it}})
	want(t, "Gone of it once more", e, api.ErrEdit)
}
