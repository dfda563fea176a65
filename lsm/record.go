package lsm

import (
	"maps"
	"slices"

	"atrium/api"
	"atrium/codec"
	"atrium/mem"
)

const (
	mostWrites = 1024
	mostText   = 1 << 21 // more than mostWrites of the longest keys and values have as a record
)

// The words that stand behind a key in a record.
const (
	wordValue = iota
	wordGone
)

// batchMay tells why writes may not be a batch.
func batchMay(l []api.Write) api.Errno {
	if !within(len(l), 1, mostWrites) {
		return api.ErrCell
	}
	for _, w := range l {
		if e := mem.Check(cell(w, 0)); e != api.OK {
			return e
		}
	}
	return api.OK
}

// cell is a write with its sequence.
func cell(w api.Write, seq uint64) api.Cell {
	return api.Cell{Key: w.Key, Seq: seq, Value: w.Value, Gone: w.Gone}
}

// counted is the writes that count, by rising keys: of each key the last one.
func counted(l []api.Write) []api.Write {
	last := map[string]api.Write{}
	for _, w := range l {
		last[w.Key] = w
	}
	var rising []api.Write
	for _, key := range slices.Sorted(maps.Keys(last)) {
		rising = append(rising, last[key])
	}
	return rising
}

// cells is a batch's cells, in order.
func cells(seq uint64, l []api.Write) []api.Cell {
	var all []api.Cell
	for _, w := range counted(l) {
		all = append(all, cell(w, seq))
	}
	return all
}

// Record is a batch's bytes.
func Record(seq uint64, l []api.Write) (string, api.Errno) {
	if e := batchMay(l); e != api.OK {
		return "", e
	}
	if seq < 1 || seq > api.MaxSeq {
		return "", api.ErrArg
	}
	rising := counted(l)
	w := codec.NewWriter(mostText)
	w.Varint(seq)
	w.Varint(uint64(len(rising)))
	for _, x := range rising {
		w.Text(x.Key)
		if x.Gone {
			w.Varint(wordGone)
			continue
		}
		w.Varint(wordValue)
		w.Text(x.Value)
	}
	return w.Done()
}

// Batch is the batch that a record is. A batch's keys have just one form, so that a record is theirs if it comes out once more.
func Batch(rec string) (uint64, []api.Write, api.Errno) {
	r := codec.NewReader(rec)
	seq := r.Varint()
	l := readWrites(r)
	if again, e := Record(seq, l); e != api.OK || again != rec {
		return 0, nil, api.ErrDamaged
	}
	return seq, l, api.OK
}

// readWrites takes any bytes as a record's keys; there are no more of them than the bytes have, whatever their number says.
func readWrites(r *codec.Reader) []api.Write {
	var l []api.Write
	for n := r.Varint(); n > 0 && r.Left() > 0; n-- {
		w := api.Write{Key: r.Text()}
		w.Gone = r.Varint() != wordValue
		if !w.Gone {
			w.Value = r.Text()
		}
		l = append(l, w)
	}
	return l
}
