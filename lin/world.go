package lin

import (
	"cmp"
	"slices"
	"strconv"
	"strings"

	"atrium/api"
	"atrium/model"
)

// history is the worlds that may stand behind the last of some terms; or none, and the number of the first term behind which none may.
func history(tenants []api.Tenant, l []api.Served) ([]*model.World, int) {
	w, e := model.New(tenants)
	if e != api.OK {
		return nil, 0
	}
	worlds := []*model.World{w}
	for i, s := range l {
		if s.Open != api.OK {
			continue
		}
		worlds = unlike(behind(worlds, s), len(tenants))
		if len(worlds) == 0 {
			return nil, i
		}
	}
	return worlds, 0
}

// behind is the worlds that may stand behind a term, if these may ahead of it. These are used up.
func behind(ahead []*model.World, s api.Served) []*model.World {
	done, unsure := calls(s, api.FateDone), calls(s, api.FateUnsure)
	var l []*model.World
	for _, w := range ahead {
		if !tells(w, done) {
			continue
		}
		l = append(l, w)
		for _, a := range unsure {
			other := w.Fork()
			if model.Mutates(a.Call, other.Do(a.Call, a.Tick)) {
				l = append(l, other)
			}
		}
	}
	return l
}

// calls is the calls of a fate, as one by one they were determined.
func calls(s api.Served, fate int) []api.Asked {
	var l []api.Asked
	for _, a := range s.Asked {
		if a.IsCall && a.Fate == fate {
			l = append(l, a)
		}
	}
	slices.SortStableFunc(l, func(a, b api.Asked) int { return cmp.Compare(a.Point, b.Point) })
	return l
}

// tells does calls in a world, one behind the other: whether it tells what they were told. What it does not tell ends it.
func tells(w *model.World, l []api.Asked) bool {
	for _, a := range l {
		if !model.Same(w.Do(a.Call, a.Tick), a.Answer) {
			return false
		}
	}
	return true
}

// unlike is worlds, each once.
func unlike(l []*model.World, tenants int) []*model.World {
	met := map[string]int{}
	var once []*model.World
	for _, w := range l {
		s := text(w, tenants)
		met[s]++
		if met[s] == 1 {
			once = append(once, w)
		}
	}
	return once
}

// text is a world as a text that no unlike one has. The head stands for the entries, as it is their chain; and at the tick 0 every session lives, as none expires so early.
func text(w *model.World, tenants int) string {
	var b strings.Builder
	for i := range tenants {
		b.WriteString(strconv.Itoa(w.Next(i)) + " " + w.Head(i) + "\n")
		for _, s := range w.Live(i, 0) {
			b.WriteString(strconv.Quote(s.Token) + strconv.Quote(s.User) + strconv.Quote(s.Data) + strconv.FormatUint(s.Expires, 10) + "\n")
		}
	}
	return b.String()
}

// isEnd tells whether a world's is what a record found in the end.
func isEnd(w *model.World, tenants []api.Tenant, t api.Told) bool {
	if len(t.End) != len(tenants) {
		return false
	}
	clock := lastClock(t.Terms)
	for i, k := range t.End {
		if !slices.Equal(k.Sessions, w.Live(i, clock)) || !slices.Equal(k.Entries, w.Entries(i)) {
			return false
		}
	}
	return true
}

// lastClock is where the clock stands behind some terms.
func lastClock(l []api.Served) uint64 {
	if len(l) == 0 {
		return 0
	}
	return l[len(l)-1].Clock
}
