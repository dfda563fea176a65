package lsm

import (
	"iter"
	"slices"

	"atrium/api"
	"atrium/merge"
)

// source is where cells are: memory, or a table.
type source interface {
	Get(key string, seq uint64) (api.Cell, bool)
	Scan(from, to string) iter.Seq[api.Cell]
}

// sources goes over the places where cells are: memory, what is frozen, and the tables that are wanted.
func (d *DB) sources(wanted func(api.Sst) bool) iter.Seq[source] {
	return func(yield func(source) bool) {
		if !yield(d.mem) || !yield(d.frozen) {
			return
		}
		for _, level := range d.state.Version.Levels {
			for _, x := range level {
				if wanted(x) && !yield(d.tables[x.Number]) {
					return
				}
			}
		}
	}
}

// newest is a key's newest cell up to a sequence.
func (d *DB) newest(key string, seq uint64) (api.Cell, bool) {
	may := func(x api.Sst) bool {
		return x.First <= key && key <= x.Last && d.tables[x.Number].May(key)
	}
	var best api.Cell
	found := false
	for s := range d.sources(may) {
		if c, is := s.Get(key, seq); is && (!found || c.Seq > best.Seq) {
			best, found = c, true
		}
	}
	return best, found
}

// view is the cells of some keys, in order.
func (d *DB) view(from, to string) []api.Cell {
	meets := func(x api.Sst) bool {
		return x.Last >= from && (to == "" || x.First < to)
	}
	var lists [][]api.Cell
	for s := range d.sources(meets) {
		lists = append(lists, slices.Collect(s.Scan(from, to)))
	}
	return merge.Merge(lists...)
}

// Get is what a key has at a sequence.
func (d *DB) Get(key string, seq uint64) (string, bool) {
	if d.closed() {
		return "", false
	}
	c, is := d.newest(key, seq)
	if !is || c.Gone {
		return "", false
	}
	return c.Value, true
}

// Newest is the sequence of a key's newest cell.
func (d *DB) Newest(key string) uint64 {
	if d.closed() {
		return 0
	}
	c, _ := d.newest(key, api.MaxSeq)
	return c.Seq
}

// Scan goes over the keys that have a value at a sequence. What it tells is looked up at once, as what is laid down and merged later may let go of it.
func (d *DB) Scan(from, to string, seq uint64) iter.Seq2[string, string] {
	var seen []api.Cell
	if !d.closed() {
		seen = merge.Visible(d.view(from, to), seq)
	}
	return func(yield func(string, string) bool) {
		for _, c := range seen {
			if !yield(c.Key, c.Value) {
				return
			}
		}
	}
}
