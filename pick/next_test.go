package pick_test

import (
	"strconv"
	"testing"

	"atrium/api"
	"atrium/pick"
)

// wantJob is what Next should tell of a version that does not rest.
func wantJob(t *testing.T, what string, v api.Version, o api.Options, should api.Job) {
	t.Helper()
	j, is := pick.Next(v, o)
	want(t, what+": there is one", is, true)
	want(t, what+": Level", j.Level, should.Level)
	wantList(t, what+": Inputs", j.Inputs, should.Inputs)
	want(t, what+": Bottom", j.Bottom, should.Bottom)
	want(t, what+": Rests", pick.Rests(v, o), false)
}

// job is a job: numbers of its level's tables, and of the next level's.
func job(level int, bottom bool, moved, met []int) api.Job {
	j := api.Job{Level: level, Bottom: bottom}
	for _, n := range moved {
		j.Inputs = append(j.Inputs, api.At{Level: level, Number: n})
	}
	for _, n := range met {
		j.Inputs = append(j.Inputs, api.At{Level: level + 1, Number: n})
	}
	return j
}

func TestNextOfLevel0(t *testing.T) { // P12.2
	o := options(2, 1000, 4)
	zero := []api.Sst{file(5, "m", "o"), file(6, "c", "d"), file(9, "n", "s")}
	one := []api.Sst{file(7, "a", "b"), file(3, "bb", "c"), file(2, "e", "f"), file(8, "s", "t"), file(1, "tt", "u")}
	wantJob(t, "alone", version(zero), o, job(0, true, []int{5, 6, 9}, nil))
	wantJob(t, "all of it, and what they meet", version(zero, one), o, job(0, true, []int{5, 6, 9}, []int{3, 2, 8}))
	wantJob(t, "just Zero tables", version(zero[:2], one), o, job(0, true, []int{5, 6}, []int{3, 2}))
	_, is := pick.Next(version(zero[:1], one), o)
	want(t, "one less", is, false)
	wantJob(t, "Zero 1", version(zero[:1], one), options(1, 1000, 4), job(0, true, []int{5}, nil))
	wantJob(t, "nothing meets", version(zero, []api.Sst{file(1, "a", "b"), file(2, "t", "u")}), o, job(0, true, []int{5, 6, 9}, nil))
	wantJob(t, "also where others have too much", version(zero, []api.Sst{sized(1, 9999, "x", "y")}, []api.Sst{sized(2, 99999, "x", "y")}), o, job(0, true, []int{5, 6, 9}, nil))
	sixteen := burdened()
	wantJob(t, "Zero 16", sixteen, options(16, 1000, 4), job(0, true, []int{1, 2, 3, 4, 5, 6, 7, 8, 9, 10, 11, 12, 13, 14, 15, 16}, []int{99}))
}

func TestNextTouches(t *testing.T) { // P12.2: ranges that touch meet
	o := options(1, 1000, 4)
	zero := []api.Sst{file(9, "d", "h")}
	for _, x := range []struct {
		first, last string
		meets       bool
	}{{"a", "c", false}, {"a", "d", true}, {"d", "d", true}, {"h", "h", true}, {"h", "z", true}, {"h\x00", "z", false}, {"e", "f", true}, {"a", "z", true}, {"a", "cz", false}, {"i", "z", false}} {
		met := []int{3}
		if !x.meets {
			met = nil
		}
		f := file(3, x.first, x.last)
		wantJob(t, "level 1 "+x.first+" "+x.last, version(zero, []api.Sst{f}), o, job(0, true, []int{9}, met))
		for deeper := 2; deeper < api.MaxLevels; deeper++ {
			levels := make([][]api.Sst, deeper+1)
			levels[0], levels[deeper] = zero, []api.Sst{f}
			wantJob(t, "level "+strconv.Itoa(deeper)+" "+x.first+" "+x.last, version(levels...), o, job(0, !x.meets, []int{9}, nil))
		}
	}
}

func TestNextOfOthers(t *testing.T) { // P12.2: of the least level that has more than it may its table with the least Number
	o := options(2, 100, 4)
	one := []api.Sst{sized(9, 50, "a", "c"), sized(4, 30, "e", "h"), sized(6, 21, "k", "m")}
	two := []api.Sst{file(1, "a", "b"), file(7, "c", "d"), file(8, "f", "g"), file(2, "h", "i"), file(5, "j", "n")}
	wantJob(t, "level 1", version(nil, one, two), o, job(1, true, []int{4}, []int{8, 2}))
	wantJob(t, "the least Number is first", version(nil, []api.Sst{sized(3, 101, "a", "c"), sized(4, 1, "e", "h")}, two), o, job(1, true, []int{3}, []int{1, 7}))
	wantJob(t, "the least Number is last", version(nil, []api.Sst{sized(9, 101, "a", "c"), sized(4, 1, "e", "h"), sized(3, 1, "j", "z")}, two), o, job(1, true, []int{3}, []int{5}))
	wantJob(t, "level 0 has one less than Zero", version([]api.Sst{file(90, "a", "z")}, one, two), o, job(1, true, []int{4}, []int{8, 2}))
	wantJob(t, "nothing meets", version(nil, one, two[:2]), o, job(1, true, []int{4}, nil))
	wantJob(t, "no next level", version(nil, one), o, job(1, true, []int{4}, nil))
	_, is := pick.Next(version(nil, one[:2], two), o)
	want(t, "just what it may have", is, false)
	one[2].Size = 20
	_, is = pick.Next(version(nil, one, two), o)
	want(t, "just what it may have", is, false)
	for level := 1; level <= 5; level++ {
		levels := make([][]api.Sst, 7)
		for i := level; i <= 5; i++ { // all of them have too much
			levels[i] = []api.Sst{sized(10+2*i, pick.Bound(o, i), "a", "c"), sized(9+2*i, 1, "x", "z")}
		}
		levels[6] = []api.Sst{file(1, "x", "y")}
		met := []int{11 + 2*level}
		if level == 5 {
			met = []int{1}
		}
		wantJob(t, "several have too much: "+strconv.Itoa(level), version(levels...), o, job(level, level == 5, []int{9 + 2*level}, met))
	}
	levels := make([][]api.Sst, 7)
	levels[6] = many(1000)
	_, is = pick.Next(version(levels...), options(1, 1, 2))
	want(t, "the last level has what it likes", is, false)
}

func TestBottom(t *testing.T) { // P12.2: of all inputs, those of the next level too
	o := options(1, 1000, 4)
	zero := []api.Sst{file(9, "h", "m")}
	one := []api.Sst{file(3, "d", "i"), file(4, "l", "p"), file(5, "x", "y")}
	deep := func(f ...api.Sst) api.Version { return version(zero, one, nil, f) }
	wantJob(t, "nothing deeper", version(zero, one), o, job(0, true, []int{9}, []int{3, 4}))
	for _, x := range []struct {
		first, last string
		bottom      bool
	}{
		{"a", "c", true}, {"a", "d", false}, {"d", "d", false}, {"e", "f", false}, {"j", "k", false}, {"n", "o", false}, {"p", "z", false}, {"p\x00", "z", true}, {"a", "z", false}, {"a", "c\xff", true}, {"x", "y", true}, {"q", "w", true},
	} {
		wantJob(t, "deeper: "+x.first+" "+x.last, deep(file(1, x.first, x.last)), o, job(0, x.bottom, []int{9}, []int{3, 4}))
	}
	wantJob(t, "two beside it", deep(file(1, "a", "c"), file(2, "q", "z")), o, job(0, true, []int{9}, []int{3, 4}))
	wantJob(t, "one of two within", deep(file(1, "a", "c"), file(2, "p", "z")), o, job(0, false, []int{9}, []int{3, 4}))
	wantJob(t, "on two levels", version(zero, one, []api.Sst{file(1, "a", "b")}, nil, nil, nil, []api.Sst{file(2, "j", "j")}), o, job(0, false, []int{9}, []int{3, 4}))
	wantJob(t, "just below", version(zero, one, []api.Sst{file(1, "j", "j")}), o, job(0, false, []int{9}, []int{3, 4}))
	heavy := []api.Sst{sized(3, 1<<20, "d", "i")}
	above := []api.Sst{file(9, "e", "f")}
	wantJob(t, "what lies above does not count", version(above, heavy, []api.Sst{file(1, "i", "k")}), options(2, 1000, 4), job(1, true, []int{3}, []int{1}))
	wantJob(t, "behind the inputs' own", version(nil, heavy, []api.Sst{file(1, "i", "k")}, []api.Sst{file(2, "j", "z")}), options(2, 1000, 4), job(1, false, []int{3}, []int{1}))
	wantJob(t, "into the last level", version(nil, nil, nil, nil, nil, []api.Sst{sized(3, 1<<20, "d", "i")}, []api.Sst{file(1, "a", "z")}), options(2, 1, 2), job(5, true, []int{3}, []int{1}))
}

func TestJobsStand(t *testing.T) { // the same once more is told the same (R4)
	v := burdened()
	first, _ := pick.Next(v, options(4, 1000, 4))
	for range 20 {
		wantJob(t, "again", v, options(4, 1000, 4), first)
	}
}
