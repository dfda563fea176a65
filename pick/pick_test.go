package pick_test

import (
	"fmt"
	"math"
	"slices"
	"strconv"
	"strings"
	"testing"

	"atrium/api"
	"atrium/merge"
	"atrium/pick"
	"atrium/table"
)

// differs fails the test; of what is long the begin is told.
func differs(t *testing.T, what string, got, should any) {
	t.Helper()
	t.Errorf("%s: %.300s, not %.300s", what, fmt.Sprint(got), fmt.Sprint(should))
}

// want fails the test, if what was told is not what should be.
func want[T comparable](t *testing.T, what string, got, should T) {
	t.Helper()
	if got != should {
		differs(t, what, got, should)
	}
}

// wantList is want of lists.
func wantList[T comparable](t *testing.T, what string, got, should []T) {
	t.Helper()
	if !slices.Equal(got, should) {
		differs(t, what, got, should)
	}
}

// options is options that may be, with these numbers.
func options(zero, base, fan int) api.Options {
	return api.Options{Shape: api.Shape{Block: 64, Restart: 4, Bits: 8}, Mem: 4096, Zero: zero, Base: base, Fan: fan}
}

// sized is a table of so many bytes, file one of 10.
func sized(number, size int, first, last string) api.Sst {
	return api.Sst{Number: number, Size: size, Count: 10, First: first, Last: last}
}

func file(number int, first, last string) api.Sst { return sized(number, 10, first, last) }

// version is tables by their levels.
func version(levels ...[]api.Sst) api.Version { return api.Version{Levels: levels} }

// cloneVersion is a version that shares nothing with another one.
func cloneVersion(v api.Version) api.Version {
	v.Levels = slices.Clone(v.Levels)
	for i, l := range v.Levels {
		v.Levels[i] = slices.Clone(l)
	}
	return v
}

// optionCases is options, and whether they may be: each field at its least and greatest value, and beyond.
func optionCases() map[api.Options]bool {
	cases := map[api.Options]bool{{}: false, options(2, 1000, 4): true}
	put := func(may bool, change func(o *api.Options)) {
		o := options(2, 1000, 4)
		change(&o)
		cases[o] = may
	}
	field := func(least, most int, set func(o *api.Options, n int)) {
		for _, n := range []int{least, least + 1, most - 1, most} {
			put(true, func(o *api.Options) { set(o, n) })
		}
		for _, n := range []int{least - 1, most + 1, 0, -1, -most, math.MinInt, math.MaxInt, 1<<32 + least} {
			put(false, func(o *api.Options) { set(o, n) })
		}
	}
	field(64, 32768, func(o *api.Options, n int) { o.Shape.Block = n })
	field(1, 64, func(o *api.Options, n int) { o.Shape.Restart = n })
	field(1, 32, func(o *api.Options, n int) { o.Shape.Bits = n })
	field(1, 1<<18, func(o *api.Options, n int) { o.Mem = n })
	field(1, 16, func(o *api.Options, n int) { o.Zero = n })
	field(1, 1<<20, func(o *api.Options, n int) { o.Base = n })
	field(2, 16, func(o *api.Options, n int) { o.Fan = n })
	return cases
}

// burdened is a version that does not rest, by any options that may be and whose Zero is at most 16: its level 0 has 16 tables.
func burdened() api.Version {
	var l []api.Sst
	for i := range 16 {
		l = append(l, file(i+1, "a", "z"))
	}
	return version(l, []api.Sst{file(99, "c", "d")})
}

func TestOptionsThatMayBe(t *testing.T) { // of options that may not be: 0, false, nothing
	cells := []api.Cell{{Key: "a", Seq: 1, Value: "x"}}
	light := version(nil, []api.Sst{sized(1, 1, "a", "b")})
	for o, may := range optionCases() {
		what := fmt.Sprint(o)
		shape := table.Check(o.Shape) == api.OK
		want(t, "the Shape is as layer 9 has it: "+what, shape || !may, true)
		want(t, "Rests: "+what, pick.Rests(light, o), may)
		want(t, "Rests of nothing: "+what, pick.Rests(version(), o), may)
		want(t, "Rests of much: "+what, pick.Rests(burdened(), o), false)
		j, is := pick.Next(burdened(), o)
		want(t, "Next: "+what, is, may)
		if !may {
			want(t, "no job: "+what, j.Level == 0 && len(j.Inputs) == 0 && !j.Bottom, true)
		}
		_, is = pick.Next(light, o)
		want(t, "Next of what rests: "+what, is, false)
		want(t, "Split: "+what, len(pick.Split(cells, o)) == 1, may)
		for level := 1; level <= 5; level++ {
			want(t, "Bound: "+what, pick.Bound(o, level) > 0, may)
		}
	}
}

func TestShapesAsLayer9(t *testing.T) { // the Shape as layer 9 has it
	for _, block := range []int{-1, 0, 1, 63, 64, 65, 4096, 32767, 32768, 32769, 65536, math.MaxInt} {
		for _, restart := range []int{-1, 0, 1, 2, 63, 64, 65, math.MaxInt} {
			for _, bits := range []int{-1, 0, 1, 2, 31, 32, 33, math.MaxInt} {
				o := options(2, 1000, 4)
				o.Shape = api.Shape{Block: block, Restart: restart, Bits: bits}
				want(t, fmt.Sprint(o.Shape), pick.Rests(version(), o), table.Check(o.Shape) == api.OK)
			}
		}
	}
}

// many is so many tables, apart from one another.
func many(n int) []api.Sst {
	var l []api.Sst
	for i := range n {
		key := "key" + strconv.Itoa(10000+i)
		l = append(l, file(i+1, key, key+"x"))
	}
	return l
}

// noVersions is versions that may not be; all but the first few would have something to merge.
func noVersions() map[string]api.Version {
	heavy := func(l ...api.Sst) []api.Sst { return append(l, sized(90, api.MaxFile, "z", "zz")) }
	long := strings.Repeat("k", api.MaxKey+1)
	return map[string]api.Version{
		"an empty level":                version(nil),
		"an empty last level":           version(nil, heavy(), nil),
		"eight levels":                  version(nil, heavy(), nil, nil, nil, nil, nil, []api.Sst{file(1, "a", "b")}),
		"too many tables":               version(nil, many(api.MaxTables+1)),
		"too many tables on two levels": version(many(1), heavy(many(api.MaxTables)[1:]...)),
		"two of one Number":             version(nil, heavy(file(1, "a", "b"), file(1, "c", "d"))),
		"two of one Number on two":      version([]api.Sst{file(1, "a", "b")}, heavy(file(1, "c", "d"))),
		"level 0 does not rise":         version([]api.Sst{file(2, "a", "b"), file(1, "c", "d")}, heavy()),
		"level 1 does not rise":         version(nil, heavy(file(1, "c", "d"), file(2, "a", "b"))),
		"they touch":                    version(nil, heavy(file(1, "a", "b"), file(2, "b", "c"))),
		"they overlap":                  version(nil, nil, heavy(file(1, "a", "c"), file(2, "b", "d"))),
		"Number 0":                      version(nil, heavy(file(0, "a", "b"))),
		"Number above":                  version(nil, heavy(file(api.MaxNumber+1, "a", "b"))),
		"Size 0":                        version(nil, heavy(sized(1, 0, "a", "b"))),
		"Size above":                    version(nil, heavy(sized(1, api.MaxFile+1, "a", "b"))),
		"Count 0":                       version(nil, heavy(api.Sst{Number: 1, Size: 1, First: "a", Last: "b"})),
		"Count above":                   version(nil, heavy(api.Sst{Number: 1, Size: 1, Count: api.MaxCells + 1, First: "a", Last: "b"})),
		"no First":                      version(nil, heavy(file(1, "", "b"))),
		"no Last":                       version(nil, heavy(file(1, "a", ""))),
		"First above Last":              version(nil, heavy(file(1, "b", "a"))),
		"a long Last":                   version(nil, heavy(file(1, "a", long))),
		"no table":                      version(nil, heavy(api.Sst{})),
	}
}

func TestVersionsThatMayNotBe(t *testing.T) { // of a version that may not be: 0, false, nothing
	o := options(2, 1000, 4)
	for what, v := range noVersions() {
		for level := -1; level < 9; level++ {
			want(t, "Bytes: "+what, pick.Bytes(v, level), 0)
		}
		want(t, "Rests: "+what, pick.Rests(v, o), false)
		j, is := pick.Next(v, o)
		want(t, "Next: "+what, is, false)
		want(t, "no job: "+what, j.Level == 0 && len(j.Inputs) == 0 && !j.Bottom, true)
		want(t, "Work: "+what, pick.Work(v), 0)
	}
}

func TestVersionsThatMayBe(t *testing.T) { // as a State's with Log 0, Next 2^31, Seq 0
	o := options(2, 1000, 4)
	for what, v := range map[string]api.Version{
		"none":                      version(),
		"the greatest Number":       version([]api.Sst{file(api.MaxNumber, "a", "b")}),
		"the least and the longest": version(nil, []api.Sst{{Number: 1, Size: 1, Count: 1, First: "\x00", Last: strings.Repeat("\xff", api.MaxKey)}}),
		"the last level":            version(nil, nil, nil, nil, nil, nil, []api.Sst{sized(1, api.MaxFile, "a", "b")}),
		"MaxTables on the last one": version(nil, nil, nil, nil, nil, nil, many(api.MaxTables)),
	} {
		want(t, "Rests: "+what, pick.Rests(v, o), true)
		_, is := pick.Next(v, o)
		want(t, "Next: "+what, is, false)
	}
	want(t, "Work of the most cells", pick.Work(version(nil, []api.Sst{{Number: 1, Size: 1, Count: api.MaxCells, First: "a", Last: "a"}})), api.MaxCells*5)
}

func TestBytes(t *testing.T) { // P12.1
	v := version([]api.Sst{sized(5, 9, "a", "c"), sized(6, 20, "b", "d")}, nil, []api.Sst{sized(3, api.MaxFile, "a", "b"), sized(4, 1, "x", "z")})
	for level, n := range map[int]int{0: 29, 1: 0, 2: api.MaxFile + 1, 3: 0, 6: 0, 7: 0, -1: 0, math.MaxInt: 0, math.MinInt: 0} {
		want(t, "Bytes of "+strconv.Itoa(level), pick.Bytes(v, level), n)
	}
	want(t, "none", pick.Bytes(version(), 0), 0)
	all := many(api.MaxTables)
	for i := range all {
		all[i].Size = api.MaxFile
	}
	for level := range api.MaxLevels {
		levels := make([][]api.Sst, level+1)
		levels[level] = all
		want(t, "the most", pick.Bytes(version(levels...), level), api.MaxTables*api.MaxFile)
	}
}

func TestBound(t *testing.T) { // P12.1
	for _, x := range []struct {
		base, fan int
		bounds    [5]int
	}{
		{1000, 4, [5]int{1000, 4000, 16000, 64000, 256000}},
		{1, 2, [5]int{1, 2, 4, 8, 16}},
		{1, 16, [5]int{1, 16, 256, 4096, 65536}},
		{1 << 20, 2, [5]int{1 << 20, 1 << 21, 1 << 22, 1 << 23, 1 << 24}},
		{1 << 20, 16, [5]int{1 << 20, 1 << 24, 1 << 28, 1 << 32, 1 << 36}}, // the most that may be: 2^40 is never less
		{7, 3, [5]int{7, 21, 63, 189, 567}},
	} {
		o := options(2, x.base, x.fan)
		for i, n := range x.bounds {
			want(t, "Bound of "+strconv.Itoa(i+1), pick.Bound(o, i+1), min(n, 1<<40))
		}
		for _, level := range []int{0, -1, -6, 6, 7, 8, 100, math.MinInt, math.MaxInt} {
			want(t, "Bound of "+strconv.Itoa(level), pick.Bound(o, level), 0)
		}
	}
}

func TestMeet(t *testing.T) { // P12.1: of any list
	l := []api.Sst{file(9, "c", "f"), {Number: 0, First: "a", Last: "b"}, file(9, "g", "g"), {}, file(3, "z", "a"), file(1, "b", "x"), {Number: -5, First: "f", Last: "h"}}
	for _, x := range []struct {
		first, last string
		places      []int
	}{
		{"a", "z", []int{0, 1, 2, 4, 5, 6}}, {"c", "c", []int{0, 5}}, {"f", "f", []int{0, 5, 6}}, {"f\x00", "f\x00", []int{5, 6}}, {"b\x00", "bz", []int{5}}, {"b", "b", []int{1, 5}}, {"g", "g", []int{2, 5, 6}},
		{"", "", []int{3}}, {"", "a", []int{1, 3}}, {"", "`", []int{3}}, {"x\x00", "z", nil}, {"x", "z", []int{5}}, {"a", "zz", []int{0, 1, 2, 4, 5, 6}}, {"b", "zz", []int{0, 1, 2, 5, 6}},
		{"f", "c", []int{0, 5}}, {"g", "b", []int{5}}, {"z", "a", nil}, {"x", "b", []int{5}}, {"\x80", "\xff", nil}, {"a", "", nil}, // also where first is above last
	} {
		var should []api.Sst
		for _, i := range x.places {
			should = append(should, l[i])
		}
		wantList(t, "Meet "+strconv.Quote(x.first)+" "+strconv.Quote(x.last), pick.Meet(l, x.first, x.last), should)
	}
	wantList(t, "nil", pick.Meet(nil, "a", "z"), nil)
	wantList(t, "none", pick.Meet([]api.Sst{}, "a", "z"), nil)
	all := many(3000)
	wantList(t, "many", pick.Meet(all, "key10005", "key12000"), all[5:2001])
}

func TestRests(t *testing.T) { // P12.1
	table := func(i int) api.Sst { return file(i+1, "a", "z") }
	for zero := 1; zero <= 16; zero++ { // level 0: fewer than Zero
		var l []api.Sst
		for n := range 18 {
			v := version()
			if n > 0 {
				v = version(l)
			}
			want(t, strconv.Itoa(n)+" tables, Zero "+strconv.Itoa(zero), pick.Rests(v, options(zero, 1, 2)), n < zero)
			_, is := pick.Next(v, options(zero, 1, 2))
			want(t, "Next", is, n >= zero)
			l = append(l, table(n))
		}
	}
	big := make([]api.Sst, 0)
	for i := range 2 {
		big = append(big, sized(i+1, api.MaxFile, "a", "z"))
	}
	want(t, "level 0's bytes do not count", pick.Rests(version(big), options(3, 1, 2)), true)
	for level := 1; level <= 6; level++ { // others: at most their bound
		for _, o := range []api.Options{options(1, 1, 2), options(16, 1000, 4), options(2, 500, 3)} {
			bound := pick.Bound(o, level)
			if level == 6 {
				bound = api.MaxFile
			}
			for _, more := range []int{-1, 0, 1, 50} {
				size := bound + more
				if size < 1 || size > api.MaxFile {
					continue
				}
				levels := make([][]api.Sst, level+1)
				levels[level] = []api.Sst{sized(7, size, "a", "b")}
				want(t, "one table", pick.Rests(version(levels...), o), level == 6 || more <= 0)
				if size > 1 {
					levels[level] = []api.Sst{sized(8, 1, "a", "b"), sized(7, size-1, "c", "d")}
					want(t, "two tables", pick.Rests(version(levels...), o), level == 6 || more <= 0)
				}
			}
		}
	}
	want(t, "the last one may have what it likes", pick.Rests(version(nil, nil, nil, nil, nil, nil, many(api.MaxTables)), options(1, 1, 2)), true)
}

func TestWork(t *testing.T) { // P12.4
	want(t, "none", pick.Work(version()), 0)
	for level := range api.MaxLevels {
		levels := make([][]api.Sst, level+1)
		levels[level] = []api.Sst{{Number: 2, Size: 1, Count: 7, First: "a", Last: "b"}, {Number: 3, Size: 1000, Count: 100, First: "c", Last: "d"}}
		want(t, "on level "+strconv.Itoa(level), pick.Work(version(levels...)), 107*(6-level))
	}
	all := make([][]api.Sst, 7)
	for i := range all {
		all[i] = []api.Sst{file(i+1, "a", "b")}
	}
	want(t, "on all levels", pick.Work(version(all...)), 10*(6+5+4+3+2+1))
	full := many(api.MaxTables)
	for i := range full {
		full[i].Count = api.MaxCells
	}
	want(t, "the most", pick.Work(version(full)), api.MaxTables*api.MaxCells*6)
}

// run is versions of a key that come to so many bytes; with a cell's 16 each.
func run(key string, bytes int) []api.Cell {
	var l []api.Cell
	for seq := uint64(1 << 40); bytes > 0; seq-- {
		n := min(bytes, 1000+16+len(key))
		if rest := bytes - n; rest > 0 && rest < 16+len(key) { // the last one must have room for itself
			n -= 16 + len(key)
		}
		l = append(l, api.Cell{Key: key, Seq: seq, Value: strings.Repeat("v", n-16-len(key))})
		bytes -= n
	}
	return l
}

// lengths is how many cells pieces have.
func lengths(pieces [][]api.Cell) []int {
	var l []int
	for _, p := range pieces {
		l = append(l, len(p))
	}
	return l
}

func TestSplit(t *testing.T) { // P12.3
	o := options(2, 1000, 4)
	const size = 1 << 18
	wantList(t, "nil", lengths(pick.Split(nil, o)), nil)
	wantList(t, "none", lengths(pick.Split([]api.Cell{}, o)), nil)
	a, b := run("a", size-100), run("b", 100)
	n, one := len(a), len(run("b", 101))
	wantList(t, "just 2^18", lengths(pick.Split(slices.Concat(a, b), o)), []int{n + 1})
	wantList(t, "one more", lengths(pick.Split(slices.Concat(a, run("b", 101)), o)), []int{n, one})
	wantList(t, "one less", lengths(pick.Split(slices.Concat(a, run("b", 99)), o)), []int{n + 1})
	wantList(t, "one key of just 2^18", lengths(pick.Split(run("a", size), o)), []int{len(run("a", size))})
	long := run("m", 5*size+1)
	wantList(t, "one key of more", lengths(pick.Split(long, o)), []int{len(long)})
	wantList(t, "one key of more, among others", lengths(pick.Split(slices.Concat(run("a", 100), long, run("z", 100)), o)), []int{1, len(long), 1})
	for _, l := range [][]api.Cell{
		slices.Concat(run("a", size/2), run("b", size/2), run("c", size/2), run("d", size/2+1), run("e", 30), run("f", size)),
		slices.Concat(run("k", 3*size), run("l", 17)),
		{{Key: "a", Seq: 1, Value: "x"}, {Key: "b", Seq: 2, Gone: true}},
	} {
		got := pick.Split(l, o)
		if !slices.EqualFunc(got, merge.Cut(l, size), slices.Equal[[]api.Cell]) {
			differs(t, "Split is Cut", lengths(got), lengths(merge.Cut(l, size)))
		}
		wantList(t, "one behind the other", slices.Concat(got...), l)
	}
	for _, l := range [][]api.Cell{
		{{Key: "b", Seq: 1}, {Key: "a", Seq: 1}}, {{Key: "a", Seq: 1}, {Key: "a", Seq: 2}}, {{Key: "a", Seq: 1}, {Key: "a", Seq: 1}},
	} {
		wantList(t, "not in order", lengths(pick.Split(l, o)), nil)
	}
	for _, other := range []api.Options{options(16, 1, 16), options(1, 1<<20, 2)} {
		wantList(t, "whatever the options", lengths(pick.Split(slices.Concat(a, run("b", 101)), other)), []int{n, one})
	}
}

// spoil fills a list, and the room behind it, with nothing.
func spoil[T any](l []T) {
	l = l[:cap(l)]
	for i := range l {
		var zero T
		l[i] = zero
	}
}

func TestArgumentsStay(t *testing.T) { // R3: also what lies behind a list's end; answers are new
	o := options(2, 1000, 4)
	v := version([]api.Sst{file(5, "a", "c"), file(6, "b", "d"), file(7, "x", "y")}, []api.Sst{file(3, "a", "b"), file(4, "x", "z"), {}})
	v.Levels[0], v.Levels[1] = v.Levels[0][:2], v.Levels[1][:2]
	was := cloneVersion(v)
	one, _ := pick.Next(v, o)
	two, _ := pick.Next(v, o)
	spoil(one.Inputs)
	wantList(t, "another answer", two.Inputs, []api.At{{Level: 0, Number: 5}, {Level: 0, Number: 6}, {Level: 1, Number: 3}})
	met := pick.Meet(v.Levels[0], "a", "z")
	again := pick.Meet(v.Levels[0], "a", "z")
	spoil(met)
	wantList(t, "another answer", again, was.Levels[0])
	spoil(pick.Meet(v.Levels[1], "x", "z"))
	pick.Rests(v, o)
	pick.Work(v)
	pick.Bytes(v, 0)
	for i := range v.Levels {
		wantList(t, "the version", v.Levels[i], was.Levels[i])
	}
	want(t, "behind a list", v.Levels[0][:3][2], file(7, "x", "y"))
	cells := []api.Cell{{Key: "a", Seq: 2, Value: "x"}, {Key: "b", Seq: 1, Value: "y"}, {Key: "a", Seq: 9}}
	pieces := pick.Split(cells[:2], o)
	spoil(pieces[0])
	wantList(t, "the cells", cells, []api.Cell{{Key: "a", Seq: 2, Value: "x"}, {Key: "b", Seq: 1, Value: "y"}, {Key: "a", Seq: 9}})
	pieces = pick.Split(slices.Concat(run("a", 1<<18), run("b", 100)), o)
	spoil(pieces[0])
	wantList(t, "another piece", pieces[1], run("b", 100))
}

func TestExamples(t *testing.T) { // the chapter's examples
	o := options(2, 1000, 4)
	v := version([]api.Sst{file(5, "a", "c"), file(6, "b", "d")}, []api.Sst{file(3, "a", "b"), file(4, "x", "z")})
	wantJob(t, "1", v, o, api.Job{Level: 0, Inputs: []api.At{{Level: 0, Number: 5}, {Level: 0, Number: 6}, {Level: 1, Number: 3}}, Bottom: true})
	want(t, "1: Work", pick.Work(v), 220)
	for level, n := range map[int]int{1: 1000, 2: 4000, 3: 16000} {
		want(t, "2: Bound", pick.Bound(o, level), n)
	}
}
