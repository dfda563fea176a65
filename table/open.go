package table

import (
	"bytes"
	"slices"

	"atrium/api"
	"atrium/block"
	"atrium/codec"
)

// Table is cells in blocks.
type Table struct {
	parts  []part
	tail   []byte // all of its bytes from the filter on
	filter []byte
	count  int
	last   string
	shape  api.Shape
}

// part is a block, and the cell with which it begins.
type part struct {
	first api.Cell
	block *block.Block
}

// pieces is what any bytes are as a table's.
type pieces struct {
	blocks, filter, index []byte
	shape                 api.Shape
}

// Open is the table that bytes are. Cells and a shape have just one form, so that bytes are theirs if they come out once more.
func Open(b []byte) (*Table, api.Errno) {
	p := cut(b)
	t := &Table{parts: readParts(p), shape: p.shape}
	l := slices.Collect(t.Scan("", ""))
	if again, e := Build(l, p.shape); e != api.OK || !bytes.Equal(again, b) {
		return nil, api.ErrTable
	}
	t.count = len(l)
	t.last = l[len(l)-1].Key
	t.tail = bytes.Clone(b[len(p.blocks):])
	t.filter = t.tail[:len(p.filter):len(p.filter)]
	return t, api.OK
}

// cut takes any bytes as a table's; where they are too many, or too few for what their foot says, the shape is one that may not be. What of the foot is not asked here is told by bytes that come out otherwise.
func cut(b []byte) pieces {
	foot := len(b) - footBytes
	if foot < 0 || len(b) > api.MaxFile {
		return pieces{}
	}
	r := codec.NewReader(string(b[foot:]))
	filter, _, index, _, _ := int(r.U32()), r.U32(), int(r.U32()), r.U32(), r.U32()
	shape := api.Shape{Block: int(r.U32()), Restart: int(r.U16()), Bits: int(r.U16())}
	if filter > index || index > foot {
		return pieces{}
	}
	return pieces{b[:filter:filter], b[filter:index:index], b[index:foot:foot], shape}
}

// readParts opens the blocks that an index tells of, one behind the other, up to the first that is none.
func readParts(p pieces) []part {
	var l []part
	rest := p.blocks
	for r := codec.NewReader(string(p.index)); r.Left() > 0; {
		_, _, n := r.Text(), r.Varint(), r.Varint()
		n = min(n, uint64(len(rest)))
		b, e := block.Open(string(rest[:n:n]))
		if e != api.OK {
			break
		}
		first, _ := b.Seek("", api.MaxSeq)
		l = append(l, part{first, b})
		rest = rest[n:]
	}
	return l
}
