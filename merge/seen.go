package merge

import (
	"iter"
	"slices"
	"sort"

	"atrium/api"
)

// cellBytes is what each cell counts for beside its Key and Value.
const cellBytes = 16

// Visible is what is seen at a moment.
func Visible(l []api.Cell, seq uint64) []api.Cell {
	var seen []api.Cell
	for versions := range keys(l) {
		n := newest(versions, seq)
		if n < len(versions) && !versions[n].Gone {
			seen = append(seen, versions[n])
		}
	}
	return seen
}

// Drop is a list without what may be let go.
func Drop(l []api.Cell, oldest uint64, bottom bool) []api.Cell {
	var left []api.Cell
	for versions := range keys(l) {
		n := newest(versions, oldest)
		left = append(left, versions[:n]...)
		if n < len(versions) && !(bottom && versions[n].Gone) {
			left = append(left, versions[n])
		}
	}
	return left
}

// Cut is a list in pieces.
func Cut(l []api.Cell, size int) [][]api.Cell {
	if size < 1 {
		return nil
	}
	var pieces [][]api.Cell
	room := 0 // what the last piece has left; below 0, if a key alone has more than size
	for versions := range keys(l) {
		need := weight(versions)
		if len(pieces) == 0 || need > room {
			pieces = append(pieces, nil)
			room = size
		}
		last := &pieces[len(pieces)-1]
		*last = append(*last, versions...)
		room -= need
	}
	return pieces
}

// keys goes over the versions of each key, of a list in order; over none of another one.
func keys(l []api.Cell) iter.Seq[[]api.Cell] {
	return func(yield func([]api.Cell) bool) {
		if !Sorted(l) {
			return
		}
		for rest := l; len(rest) > 0; {
			n := slices.IndexFunc(rest, func(c api.Cell) bool { return c.Key != rest[0].Key })
			if n < 0 {
				n = len(rest)
			}
			if !yield(rest[:n:n]) {
				return
			}
			rest = rest[n:]
		}
	}
}

// newest is where among a key's versions the newest one up to a moment stands; behind all of them, if there is none.
func newest(versions []api.Cell, seq uint64) int {
	return sort.Search(len(versions), func(i int) bool {
		return versions[i].Seq <= seq
	})
}

// weight is how many bytes cells have.
func weight(l []api.Cell) int {
	sum := 0
	for _, c := range l {
		sum += len(c.Key) + len(c.Value) + cellBytes
	}
	return sum
}
