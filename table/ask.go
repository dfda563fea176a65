package table

import (
	"iter"
	"sort"

	"atrium/api"
	"atrium/filter"
)

// own is the table; of none one that has nothing.
func (t *Table) own() Table {
	if t == nil {
		return Table{}
	}
	return *t
}

// Get is a key's newest version up to a moment.
func (t *Table) Get(key string, seq uint64) (api.Cell, bool) {
	for _, p := range t.from(key, seq) {
		c, ok := p.block.Seek(key, seq)
		if ok && c.Key == key {
			return c, true
		}
		if ok {
			break
		}
	}
	return api.Cell{}, false
}

// May tells whether it may have a key.
func (t *Table) May(key string) bool {
	return filter.May(t.own().filter, key)
}

// Scan goes over the cells of some keys.
func (t *Table) Scan(from, to string) iter.Seq[api.Cell] {
	return func(yield func(api.Cell) bool) {
		for _, p := range t.from(from, api.MaxSeq) {
			for c := range p.block.Scan(from, "") {
				if to != "" && c.Key >= to || !yield(c) {
					return
				}
			}
		}
	}
}

// from is the blocks from the one on where a place in the order would be: the last one that begins ahead of it, as the cell at that place, or the first one behind it, stands there or begins the next one.
func (t *Table) from(key string, seq uint64) []part {
	l := t.own().parts
	n := sort.Search(len(l), func(i int) bool {
		return !ahead(l[i].first, key, seq)
	})
	return l[max(n-1, 0):]
}

// ahead tells whether a cell stands ahead of a place in the order.
func ahead(c api.Cell, key string, seq uint64) bool {
	if c.Key != key {
		return c.Key < key
	}
	return c.Seq > seq
}

// Count is how many cells there are.
func (t *Table) Count() int {
	return t.own().count
}

// Blocks is how many blocks there are.
func (t *Table) Blocks() int {
	return len(t.own().parts)
}

// First is the key of the first cell.
func (t *Table) First() string {
	if t.Blocks() == 0 {
		return ""
	}
	return t.parts[0].first.Key
}

// Last is the key of the last cell.
func (t *Table) Last() string {
	return t.own().last
}

// Shape is how it is laid.
func (t *Table) Shape() api.Shape {
	return t.own().shape
}

// Bytes is its bytes.
func (t *Table) Bytes() []byte {
	var b []byte
	for _, p := range t.own().parts {
		b = append(b, p.block.Bytes()...)
	}
	return append(b, t.own().tail...)
}
