package manifest_test

import (
	"math"
	"slices"
	"testing"

	"atrium/api"
	"atrium/manifest"
)

// keep is an edit with the numbers of the sample.
func keep(gone []api.At, added ...api.Placed) api.Edit {
	return api.Edit{Log: 3, Next: 5000, Seq: 77, Gone: gone, Added: added}
}

// comes is a file that comes to a level; goes is some that go.
func comes(level int, f api.Sst) api.Placed { return api.Placed{Level: level, Sst: f} }

func goes(places ...api.At) []api.At { return places }

func at(level, number int) api.At { return api.At{Level: level, Number: number} }

// wantApply is the version that Apply should make of the sample.
func wantApply(t *testing.T, what string, e api.Edit, levels ...[]api.Sst) {
	t.Helper()
	s, no := manifest.Apply(sample(), e)
	want(t, what, no, api.OK)
	should := api.State{Version: api.Version{Levels: levels}, Log: e.Log, Next: e.Next, Seq: e.Seq}
	wantState(t, what, s, should)
	want(t, what+": it may be", manifest.Check(s), api.OK)
}

// refuseApply is that an edit of a state can't be done.
func refuseApply(t *testing.T, what string, s api.State, e api.Edit) {
	t.Helper()
	n, no := manifest.Apply(s, e)
	want(t, what, no, api.ErrEdit)
	wantState(t, what, n, api.State{})
}

func TestApplyNothing(t *testing.T) { // P11.1
	l := sample().Version.Levels
	wantApply(t, "nothing", keep(nil), l...)
	wantApply(t, "empty lists", api.Edit{Log: 3, Next: 5000, Seq: 77, Gone: []api.At{}, Added: []api.Placed{}}, l...)
	wantApply(t, "greater numbers", api.Edit{Log: 4, Next: 5001, Seq: 78}, l...)
	wantApply(t, "the greatest numbers", api.Edit{Log: api.MaxNumber, Next: api.MaxNumber + 1, Seq: api.MaxSeq}, l...)
}

func TestApplyNumbers(t *testing.T) { // P11.1: not below the state's, and such that the state may be
	s := sample()
	for _, e := range []api.Edit{
		{Log: 2, Next: 5000, Seq: 77}, {Log: 3, Next: 4999, Seq: 77}, {Log: 3, Next: 5000, Seq: 76},
		{Log: 0, Next: 5000, Seq: 77}, {Log: -1, Next: 5000, Seq: 77}, {Log: math.MinInt, Next: 5000, Seq: 77}, {Log: 3, Next: 1, Seq: 77}, {Log: 3, Next: -5, Seq: 77}, {Log: 3, Next: 5000}, {},
		{Log: 5000, Next: 5000, Seq: 77}, {Log: 5001, Next: 5000, Seq: 77}, {Log: api.MaxNumber + 1, Next: api.MaxNumber + 1, Seq: 77}, {Log: api.MaxNumber + 1, Next: api.MaxNumber + 2, Seq: 77},
		{Log: 3, Next: api.MaxNumber + 2, Seq: 77}, {Log: 3, Next: math.MaxInt, Seq: 77}, {Log: 3, Next: 5000, Seq: api.MaxSeq + 1}, {Log: 3, Next: 5000, Seq: math.MaxUint64},
	} {
		refuseApply(t, "numbers", s, e)
		e.Gone = goes(at(0, 5))
		refuseApply(t, "numbers", s, e)
	}
	refuseApply(t, "a Number that is Next", s, keep(nil, comes(2, file(5000, "a", "b"))))
	refuseApply(t, "a Number above Next", s, keep(nil, comes(2, file(5001, "a", "b"))))
	wantApply(t, "a Number below Next", keep(nil, comes(4, file(4999, "a", "b"))), append(s.Version.Levels, []api.Sst{file(4999, "a", "b")})...)
	wantApply(t, "a Number below the new Next", api.Edit{Log: 3, Next: 5001, Seq: 77, Added: []api.Placed{comes(4, file(5000, "a", "b"))}}, append(s.Version.Levels, []api.Sst{file(5000, "a", "b")})...)
}

func TestApplyComes(t *testing.T) { // P11.1: each to its place in its level's order
	l := sample().Version.Levels
	wantApply(t, "first on level 0", keep(nil, comes(0, file(3, "x", "y"))), slices.Insert(slices.Clone(l[0]), 0, file(3, "x", "y")), l[1], nil, l[3])
	wantApply(t, "between on level 0", keep(nil, comes(0, file(8, "a", "a"))), slices.Insert(slices.Clone(l[0]), 2, file(8, "a", "a")), l[1], nil, l[3])
	wantApply(t, "last on level 0", keep(nil, comes(0, file(10, "a", "z"))), append(slices.Clone(l[0]), file(10, "a", "z")), l[1], nil, l[3])
	wantApply(t, "several on level 0", keep(nil, comes(0, file(10, "a", "z")), comes(0, file(3, "a", "z")), comes(0, file(8, "k", "k"))),
		[]api.Sst{file(3, "a", "z"), l[0][0], l[0][1], file(8, "k", "k"), l[0][2], file(10, "a", "z")}, l[1], nil, l[3])
	wantApply(t, "first on level 1", keep(nil, comes(1, file(10, "A", "B"))), l[0], slices.Insert(slices.Clone(l[1]), 0, file(10, "A", "B")), nil, l[3])
	wantApply(t, "between on level 1", keep(nil, comes(1, file(3, "bb", "bz"))), l[0], slices.Insert(slices.Clone(l[1]), 1, file(3, "bb", "bz")), nil, l[3])
	wantApply(t, "last on level 1", keep(nil, comes(1, file(3, "fa", "zz"))), l[0], append(slices.Clone(l[1]), file(3, "fa", "zz")), nil, l[3])
	wantApply(t, "on the empty one", keep(nil, comes(2, file(11, "x", "z")), comes(2, file(12, "a", "b"))), l[0], l[1], []api.Sst{file(12, "a", "b"), file(11, "x", "z")}, l[3])
	wantApply(t, "behind the last one", keep(nil, comes(6, file(11, "a", "z"))), l[0], l[1], nil, l[3], nil, nil, []api.Sst{file(11, "a", "z")})
	wantApply(t, "on several", keep(nil, comes(4, file(13, "a", "b")), comes(0, file(11, "a", "z")), comes(2, file(12, "a", "b"))),
		append(slices.Clone(l[0]), file(11, "a", "z")), l[1], []api.Sst{file(12, "a", "b")}, l[3], []api.Sst{file(13, "a", "b")})
}

func TestApplyComesRefused(t *testing.T) { // P11.1
	s := sample()
	for _, level := range []int{-1, -7, math.MinInt, 7, 8, 1000, math.MaxInt} {
		refuseApply(t, "a level that can't be", s, keep(nil, comes(level, file(11, "x", "y"))))
		refuseApply(t, "a level that can't be, of the empty state", api.State{Next: 1}, api.Edit{Next: 12, Added: []api.Placed{comes(level, file(11, "x", "y"))}})
		refuseApply(t, "a level that can't be, behind another", s, keep(nil, comes(0, file(10, "x", "y")), comes(level, file(11, "x", "y"))))
	}
	for what, p := range map[string]api.Placed{
		"a Number of its level":      comes(0, file(5, "a", "b")),
		"a Number of another level":  comes(2, file(5, "a", "b")),
		"the same once more":         comes(3, file(1, "f", "g")),
		"it touches the one ahead":   comes(1, file(11, "b", "bb")),
		"it touches the one behind":  comes(1, file(11, "bb", "c")),
		"it overlaps":                comes(1, file(11, "e", "z")),
		"it is within":               comes(1, file(11, "e", "ee")),
		"another is within":          comes(3, file(11, "a", "z")),
		"the same keys":              comes(3, file(11, "f", "g")),
		"the same First, and longer": comes(3, file(11, "f", "z")),
		"a file that may not be":     comes(2, file(11, "b", "a")),
		"no file":                    comes(2, api.Sst{}),
		"Number 0":                   comes(0, file(0, "a", "b")),
	} {
		refuseApply(t, what, s, keep(nil, p))
		refuseApply(t, what+", behind another", s, keep(nil, comes(4, file(20, "a", "b")), p))
	}
	refuseApply(t, "two that come are of one Number", s, keep(nil, comes(2, file(11, "a", "b")), comes(2, file(11, "c", "d"))))
	refuseApply(t, "two that come are of one Number", s, keep(nil, comes(0, file(11, "a", "b")), comes(4, file(11, "c", "d"))))
	refuseApply(t, "two that come touch", s, keep(nil, comes(2, file(11, "c", "d")), comes(2, file(12, "a", "c"))))
}

func TestApplyGoes(t *testing.T) { // P11.1
	l := sample().Version.Levels
	wantApply(t, "of level 0", keep(goes(at(0, 6))), []api.Sst{l[0][0], l[0][2]}, l[1], nil, l[3])
	wantApply(t, "of level 1", keep(goes(at(1, 7), at(1, 4))), l[0], []api.Sst{l[1][1]}, nil, l[3])
	wantApply(t, "all of a level", keep(goes(at(0, 9), at(0, 5), at(0, 6))), nil, l[1], nil, l[3])
	wantApply(t, "the last level", keep(goes(at(3, 1))), l[0], l[1])
	wantApply(t, "the last levels", keep(goes(at(3, 1), at(1, 2), at(1, 4), at(1, 7))), l[0])
	wantApply(t, "all", keep(goes(at(0, 5), at(0, 6), at(0, 9), at(1, 7), at(1, 2), at(1, 4), at(3, 1))))
	wantApply(t, "the last level, and one comes", keep(goes(at(3, 1)), comes(2, file(11, "a", "b"))), l[0], l[1], []api.Sst{file(11, "a", "b")})
}

func TestApplyGoesRefused(t *testing.T) { // P11.1: not there, on another level, twice
	s := sample()
	for what, gone := range map[string][]api.At{
		"not there":                goes(at(0, 3)),
		"not there, between":       goes(at(0, 8)),
		"none":                     goes(at(0, 0)),
		"below 0":                  goes(at(0, -5)),
		"on another level":         goes(at(1, 5)),
		"on level 0":               goes(at(0, 7)),
		"on the empty level":       goes(at(2, 1)),
		"on no level":              goes(at(4, 1)),
		"on the level beyond":      goes(at(7, 1)),
		"on a level below 0":       goes(at(-1, 5)),
		"on the greatest level":    goes(at(math.MaxInt, 5)),
		"on the least level":       goes(at(math.MinInt, 5)),
		"twice":                    goes(at(0, 5), at(0, 5)),
		"twice, not neighbours":    goes(at(0, 5), at(1, 7), at(0, 5)),
		"one there, one not":       goes(at(0, 5), at(0, 7)),
		"one not, one there":       goes(at(0, 7), at(0, 5)),
		"there, and elsewhere too": goes(at(0, 5), at(1, 5)),
	} {
		refuseApply(t, what, s, keep(gone))
		refuseApply(t, what+", and one comes", s, keep(gone, comes(2, file(11, "a", "b"))))
	}
	refuseApply(t, "what comes does not go", s, keep(goes(at(2, 11)), comes(2, file(11, "a", "b"))))
	refuseApply(t, "of the empty state", api.State{Next: 1}, api.Edit{Next: 1, Gone: goes(at(0, 1))})
	refuseApply(t, "of the empty state", api.State{Next: 1}, api.Edit{Next: 1, Gone: goes(at(0, 0))})
	all := goes()
	for range 3000 {
		all = append(all, at(0, 5))
	}
	refuseApply(t, "many times", s, keep(all))
}

func TestApplyGoesAndComes(t *testing.T) { // P11.1: what goes goes first
	l := sample().Version.Levels
	wantApply(t, "the same again", keep(goes(at(0, 5)), comes(0, l[0][0])), l...)
	wantApply(t, "the same Number, another file", keep(goes(at(1, 2)), comes(1, file(2, "z", "zz"))), l[0], []api.Sst{l[1][0], l[1][2], file(2, "z", "zz")}, nil, l[3])
	wantApply(t, "to another level", keep(goes(at(0, 5)), comes(2, l[0][0])), l[0][1:], l[1], []api.Sst{l[0][0]}, l[3])
	wantApply(t, "in the place of others", keep(goes(at(1, 7), at(1, 2), at(1, 4)), comes(1, file(11, "a", "z"))), l[0], []api.Sst{file(11, "a", "z")}, nil, l[3])
	wantApply(t, "the last one comes anew, higher", keep(goes(at(3, 1)), comes(1, file(1, "x", "y"))), l[0], append(slices.Clone(l[1]), file(1, "x", "y")))
	refuseApply(t, "it goes, and comes twice", sample(), keep(goes(at(0, 5)), comes(0, l[0][0]), comes(2, l[0][0])))
	refuseApply(t, "it goes twice, and comes", sample(), keep(goes(at(0, 5), at(0, 5)), comes(0, l[0][0])))
	refuseApply(t, "another goes", sample(), keep(goes(at(0, 6)), comes(0, l[0][0])))
}

func TestApplyOfNoState(t *testing.T) { // P11.1: a state that may not be stays so, whatever the edit would mend
	for _, s := range []api.State{
		{}, {Next: 0, Log: 0}, {Log: 5, Next: 5}, {Log: -1, Next: 1}, {Next: 1, Seq: api.MaxSeq + 1},
		state(nil), state([]api.Sst{file(1, "a", "b")}, nil),
		state([]api.Sst{file(2, "a", "b"), file(1, "a", "b")}), state(nil, []api.Sst{file(1, "a", "c"), file(2, "b", "d")}), state([]api.Sst{file(1, "b", "a")}), state([]api.Sst{file(6000, "a", "b")}),
	} {
		want(t, "Check", manifest.Check(s), api.ErrEdit)
		refuseApply(t, "nothing", s, keep(nil))
		refuseApply(t, "one comes", s, api.Edit{Log: 100, Next: 9000, Seq: api.MaxSeq, Added: []api.Placed{comes(0, file(99, "a", "b"))}})
		var all []api.At
		for level, l := range s.Version.Levels {
			for _, f := range l {
				all = append(all, at(level, f.Number))
			}
		}
		refuseApply(t, "all go", s, api.Edit{Log: 100, Next: 9000, Seq: api.MaxSeq, Gone: all})
	}
}

func TestApplyLeavesArguments(t *testing.T) { // R3: also what lies behind the lists
	s := sample()
	for i, l := range s.Version.Levels {
		s.Version.Levels[i] = append(l, file(99, "q", "r"))[:len(l)]
	}
	s.Version.Levels = append(s.Version.Levels, []api.Sst{file(98, "q", "r")})[:4]
	e := keep(goes(at(1, 2), at(0, 9)), comes(1, file(12, "z", "zz")), comes(1, file(11, "cc", "cd")), comes(0, file(3, "a", "b")), comes(6, file(13, "a", "b")))
	wasState, wasGone, wasAdded := cloneState(s), slices.Clone(e.Gone), slices.Clone(e.Added)
	n, no := manifest.Apply(s, e)
	want(t, "Apply", no, api.OK)
	refused := e
	refused.Gone = append(slices.Clone(e.Gone), at(0, 9))
	manifest.Apply(s, refused)
	wantState(t, "the state", s, wasState)
	wantList(t, "Gone", e.Gone, wasGone)
	wantList(t, "Added", e.Added, wasAdded)
	for _, l := range s.Version.Levels {
		want(t, "behind a level", l[:cap(l)][len(l)], file(99, "q", "r"))
	}
	wantList(t, "behind the levels", s.Version.Levels[:5][4], []api.Sst{file(98, "q", "r")})
	should := cloneState(n)
	for i := range s.Version.Levels {
		spoil(s.Version.Levels[i])
	}
	spoil(e.Added)
	spoil(e.Gone)
	wantState(t, "what was answered", n, should)
}

func TestApplyAnswersNewMemory(t *testing.T) { // R3: lists share nothing, nor does their spare room
	s := sample()
	was := cloneState(s)
	one, _ := manifest.Apply(s, keep(nil, comes(5, file(11, "a", "b"))))
	two, _ := manifest.Apply(s, keep(nil, comes(5, file(11, "a", "b"))))
	should := cloneState(two)
	for i := range one.Version.Levels {
		spoil(one.Version.Levels[i]) // with the room behind it
		for j := i + 1; j < len(one.Version.Levels); j++ {
			wantList(t, "another level", one.Version.Levels[j], should.Version.Levels[j])
		}
	}
	spoil(one.Version.Levels)
	wantState(t, "the state", s, was)
	wantState(t, "another answer", two, should)
}

func TestWhole(t *testing.T) { // P11.1, P11.5
	wantEdit(t, "of the empty state", manifest.Whole(api.State{Next: 1}), api.Edit{Next: 1})
	l := sample().Version.Levels
	wantEdit(t, "of the sample", manifest.Whole(sample()), keep(nil,
		comes(0, l[0][0]), comes(0, l[0][1]), comes(0, l[0][2]), comes(1, l[1][0]), comes(1, l[1][1]), comes(1, l[1][2]), comes(3, l[3][0])))
	full := state(many(1, 24), many(25, 900), nil, nil, nil, many(925, 99), many(1024, 1))
	for _, s := range []api.State{{Next: 1}, {Log: 8, Next: 9, Seq: 7}, sample(), full, {Log: api.MaxNumber, Next: api.MaxNumber + 1, Seq: api.MaxSeq}} {
		e := manifest.Whole(s)
		want(t, "its files", len(e.Added), len(manifest.Files(s)))
		want(t, "none goes", len(e.Gone), 0)
		n, no := manifest.Apply(api.State{Next: 1}, e)
		want(t, "Apply of Whole", no, api.OK)
		wantState(t, "Apply of Whole", n, s)
	}
	s := sample()
	e := manifest.Whole(s)
	was := slices.Clone(e.Added)
	for i := range s.Version.Levels {
		spoil(s.Version.Levels[i])
	}
	wantList(t, "it shares nothing", e.Added, was)
}
