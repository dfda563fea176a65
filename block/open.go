package block

import (
	"iter"
	"slices"

	"atrium/api"
	"atrium/codec"
)

const (
	startBytes = 4         // where a restart begins
	footBytes  = 4 + 2 + 4 // how many restarts there are, restart, the check sum
)

// Block is cells in order.
type Block struct {
	bytes  string
	cells  string // those of the bytes that are the cells'
	starts []int  // where the restarts begin
	count  int
}

// Open is the block that bytes are. A list and a restart have just one form, so that bytes are theirs if they come out once more.
func Open(s string) (*Block, api.Errno) {
	if len(s) > api.MaxBlock {
		return nil, api.ErrBlock
	}
	b, restart := cut(s)
	l := slices.Collect(cells(b.cells))
	if again, e := Build(l, restart); e != api.OK || again != s {
		return nil, api.ErrBlock
	}
	b.count = len(l)
	return b, api.OK
}

// cut takes any bytes as a block's; where they are too few for what they say, the restart is 0, which no block has.
func cut(s string) (b *Block, restart int) {
	foot := len(s) - footBytes
	if foot < 0 {
		return &Block{}, 0
	}
	r := codec.NewReader(s[foot:])
	count := int(r.U32())
	restart = int(r.U16())
	if count > foot/startBytes {
		return &Block{}, 0
	}
	end := foot - count*startBytes
	return &Block{bytes: s, cells: s[:end], starts: readStarts(s[end:foot])}, restart
}

func readStarts(s string) []int {
	var starts []int
	for r := codec.NewReader(s); r.Left() > 0; {
		starts = append(starts, int(r.U32()))
	}
	return starts
}

// cells goes over the cells that bytes are from a restart on, up to the first place where none can be read.
func cells(s string) iter.Seq[api.Cell] {
	return func(yield func(api.Cell) bool) {
		last := ""
		for r := codec.NewReader(s); r.Left() > 0; {
			c, ok := readCell(r, last)
			if !ok || !yield(c) {
				return
			}
			last = c.Key
		}
	}
}

// readCell reads a cell behind one of the key last. A key that is too long is not made, as keys that share it would grow from cell to cell.
func readCell(r *codec.Reader, last string) (api.Cell, bool) {
	shared, more, size := r.Varint(), r.Varint(), r.Varint()
	gone, seq := r.U8(), r.Varint()
	if shared > uint64(len(last)) || more > api.MaxKey-shared {
		return api.Cell{}, false
	}
	key := last[:shared] + r.Raw(int(more))
	value := r.Raw(int(size))
	return api.Cell{Key: key, Seq: seq, Value: value, Gone: gone == 1}, r.Err() == api.OK
}
