package pick

import (
	"cmp"
	"slices"

	"atrium/api"
)

// Next is what is merged next.
func Next(v api.Version, o api.Options) (api.Job, bool) {
	if !versionMay(v) || !optionsMay(o) {
		return api.Job{}, false
	}
	level, is := overfull(v, o)
	if !is {
		return api.Job{}, false
	}
	return jobOf(v, level), true
}

// overfull is the least level that has more than it may have; there is none, if the version rests.
func overfull(v api.Version, o api.Options) (int, bool) {
	if len(on(v, 0)) >= o.Zero {
		return 0, true
	}
	for level := 1; level < lastLevel; level++ {
		if size(on(v, level)) > Bound(o, level) {
			return level, true
		}
	}
	return 0, false
}

// jobOf is the job that moves tables of a level that has some.
func jobOf(v api.Version, level int) api.Job {
	moved := chosen(v, level)
	first, last := span(moved)
	met := Meet(on(v, level+1), first, last)
	first, last = span(slices.Concat(moved, met))
	return api.Job{
		Level:  level,
		Inputs: slices.Concat(places(moved, level), places(met, level+1)),
		Bottom: noneMeets(v, level+2, first, last),
	}
}

// chosen is the tables of a level that are moved: of level 0 all, as their keys may be the same ones; of another one that with the least Number.
func chosen(v api.Version, level int) []api.Sst {
	l := v.Levels[level]
	if level == 0 {
		return l
	}
	oldest := slices.MinFunc(l, func(a, b api.Sst) int { return cmp.Compare(a.Number, b.Number) })
	return []api.Sst{oldest}
}

// span is the least First and the greatest Last of tables, of which there is one at least.
func span(l []api.Sst) (first, last string) {
	least := slices.MinFunc(l, func(a, b api.Sst) int { return cmp.Compare(a.First, b.First) })
	greatest := slices.MaxFunc(l, func(a, b api.Sst) int { return cmp.Compare(a.Last, b.Last) })
	return least.First, greatest.Last
}

// places is where tables of a level are.
func places(l []api.Sst, level int) []api.At {
	var at []api.At
	for _, f := range l {
		at = append(at, api.At{Level: level, Number: f.Number})
	}
	return at
}

// noneMeets tells whether no level from that one on has a table that may have keys between two.
func noneMeets(v api.Version, level int, first, last string) bool {
	for ; level < len(v.Levels); level++ {
		if len(Meet(v.Levels[level], first, last)) > 0 {
			return false
		}
	}
	return true
}
