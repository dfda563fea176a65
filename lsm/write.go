package lsm

import (
	"math/bits"

	"atrium/api"
	"atrium/sched"
	"atrium/wal"
)

// Write writes a batch: its sequence.
func (d *DB) Write(l []api.Write) (uint64, api.Errno) {
	told, e := d.WriteAll([][]api.Write{l})
	if e != api.OK {
		return 0, e
	}
	return told[0], api.OK
}

// WriteAll writes several batches, or none of them: each one's sequence.
func (d *DB) WriteAll(l [][]api.Write) ([]uint64, api.Errno) {
	if d.closed() {
		return nil, api.ErrClosed
	}
	for _, batch := range l {
		if e := batchMay(batch); e != api.OK {
			return nil, e
		}
	}
	if len(l) == 0 {
		return nil, api.OK
	}
	if d.stopped {
		return nil, api.ErrStopped
	}
	if e := d.logAll(l); e != api.OK {
		return nil, e
	}
	return d.keep(l), api.OK
}

// logAll appends the records of batches to the log. Where they have no room, nothing has changed: so that is asked ahead of freezing, of the log that would be written to then.
func (d *DB) logAll(l [][]api.Write) api.Errno {
	freeze := d.frozen == nil && d.mem.Size() >= d.options.Mem && d.mayRoll()
	at := d.logged
	if freeze {
		at = 0
	}
	b, e := layBatches(at, d.seq, l)
	if e != api.OK || !fits(d.fs, 0, len(b)) {
		return api.ErrFull
	}
	if freeze {
		if e := d.roll(); e != api.OK {
			return e
		}
	}
	if add(d.fs, wal.Name(d.log), b) != api.OK {
		return d.stop()
	}
	d.logged += len(b)
	return api.OK
}

// layBatches is the bytes of batches behind at bytes of a log, with the sequences behind seq. It refuses what no log has room for, and what no sequence is left for.
func layBatches(at int, seq uint64, l [][]api.Write) ([]byte, api.Errno) {
	w, _ := wal.NewWriter(at) // a log is never longer than a file may be
	var all []byte
	for _, batch := range l {
		seq++
		rec, e := Record(seq, batch)
		if e != api.OK {
			return nil, e
		}
		b, e := w.Lay(rec)
		if e != api.OK {
			return nil, e
		}
		all = append(all, b...)
	}
	return all, api.OK
}

// keep puts the cells of batches into memory: their sequences.
func (d *DB) keep(l [][]api.Write) []uint64 {
	var told []uint64
	for _, batch := range l {
		d.seq++
		for _, c := range cells(d.seq, batch) {
			d.mem.Put(c, height(d.mem.Len()))
		}
		told = append(told, d.seq)
	}
	return told
}

// height is how high the nth cell of a skiplist stands: of each two on a level about one stands on the next one, too.
func height(n int) int {
	return min(1+bits.TrailingZeros64(sched.Mix(uint64(n)+1)), api.MaxHeight)
}

// stop lets the engine take no more changes.
func (d *DB) stop() api.Errno {
	d.stopped = true
	return api.ErrIO
}
