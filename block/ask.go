package block

import (
	"iter"
	"slices"
	"sort"

	"atrium/api"
	"atrium/codec"
)

// Get is a key's newest version up to a moment.
func (b *Block) Get(key string, seq uint64) (api.Cell, bool) {
	c, ok := b.Seek(key, seq)
	if !ok || c.Key != key {
		return api.Cell{}, false
	}
	return c, true
}

// Seek is the first cell from a place on.
func (b *Block) Seek(key string, seq uint64) (api.Cell, bool) {
	for c := range b.from(key, seq) {
		return c, true
	}
	return api.Cell{}, false
}

// Scan goes over the cells of some keys.
func (b *Block) Scan(from, to string) iter.Seq[api.Cell] {
	return func(yield func(api.Cell) bool) {
		for c := range b.from(from, api.MaxSeq) {
			if to != "" && c.Key >= to || !yield(c) {
				return
			}
		}
	}
}

// from goes over the cells that do not stand ahead of a place in the order.
func (b *Block) from(key string, seq uint64) iter.Seq[api.Cell] {
	return func(yield func(api.Cell) bool) {
		if b == nil {
			return
		}
		for c := range cells(b.cells[b.start(key, seq):]) {
			if !ahead(c, key, seq) && !yield(c) {
				return
			}
		}
	}
}

// start is where the last restart ahead of a place in the order begins: no cell ahead of that one need be looked at.
func (b *Block) start(key string, seq uint64) int {
	n := sort.Search(len(b.starts), func(i int) bool {
		return !ahead(b.first(i), key, seq)
	})
	if n == 0 {
		return 0
	}
	return b.starts[n-1]
}

// first is the cell at a restart.
func (b *Block) first(i int) api.Cell {
	c, _ := readCell(codec.NewReader(b.cells[b.starts[i]:]), "")
	return c
}

// Cells is all of them.
func (b *Block) Cells() []api.Cell {
	return slices.Collect(b.Scan("", ""))
}

// Len is how many there are.
func (b *Block) Len() int {
	if b == nil {
		return 0
	}
	return b.count
}

// Restarts is how many restarts there are.
func (b *Block) Restarts() int {
	if b == nil {
		return 0
	}
	return len(b.starts)
}

// Bytes is its bytes.
func (b *Block) Bytes() string {
	if b == nil {
		return ""
	}
	return b.bytes
}
