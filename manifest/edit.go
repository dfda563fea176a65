package manifest

import (
	"cmp"
	"slices"

	"atrium/api"
)

// levels is a version in the making: all levels that it may have.
type levels [api.MaxLevels][]api.Sst

// empty is the state ahead of a manifest's first record.
func empty() api.State {
	return api.State{Next: 1}
}

// Apply is the state behind an edit.
func Apply(s api.State, e api.Edit) (api.State, api.Errno) {
	if Check(s) != api.OK {
		return api.State{}, api.ErrEdit
	}
	return step(s, e)
}

// step is Apply to a state that may be.
func step(s api.State, e api.Edit) (api.State, api.Errno) {
	if e.Log < s.Log || e.Next < s.Next || e.Seq < s.Seq {
		return api.State{}, api.ErrEdit
	}
	l, found := without(s.Version, e.Gone)
	if !found || !l.add(e.Added) {
		return api.State{}, api.ErrEdit
	}
	n := api.State{Version: l.version(), Log: e.Log, Next: e.Next, Seq: e.Seq}
	if Check(n) != api.OK {
		return api.State{}, api.ErrEdit
	}
	return n, api.OK
}

// without is a version's files but those that go; and whether each of these was there, and was named once.
func without(v api.Version, gone []api.At) (l levels, found bool) {
	goes := make(map[api.At]struct{})
	for _, a := range gone {
		goes[a] = struct{}{}
	}
	went := 0
	for level, all := range v.Levels {
		l[level] = slices.DeleteFunc(slices.Clone(all), func(f api.Sst) bool {
			_, is := goes[api.At{Level: level, Number: f.Number}]
			return is
		})
		went += len(all) - len(l[level])
	}
	return l, went == len(gone)
}

// add puts files that come to their places; false, if one comes to a level that can't be.
func (l *levels) add(added []api.Placed) bool {
	for _, p := range added {
		if p.Level < 0 || p.Level >= len(l) {
			return false
		}
		l[p.Level] = append(l[p.Level], p.Sst)
	}
	for level := range l {
		slices.SortFunc(l[level], order(level))
	}
	return true
}

// order is the comparison by which a level's files stand.
func order(level int) func(a, b api.Sst) int {
	if level == 0 {
		return func(a, b api.Sst) int { return cmp.Compare(a.Number, b.Number) }
	}
	return func(a, b api.Sst) int { return cmp.Compare(a.First, b.First) }
}

// version is the levels up to the last one that has files.
func (l levels) version() api.Version {
	n := len(l)
	for n > 0 && len(l[n-1]) == 0 {
		n--
	}
	return api.Version{Levels: slices.Clone(l[:n])}
}

// Whole is the edit of the empty state that makes a state.
func Whole(s api.State) api.Edit {
	e := api.Edit{Log: s.Log, Next: s.Next, Seq: s.Seq}
	for level, f := range files(s.Version) {
		e.Added = append(e.Added, api.Placed{Level: level, Sst: f})
	}
	return e
}
