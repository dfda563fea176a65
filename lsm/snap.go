package lsm

import "atrium/api"

// Snap is the last sequence, which is kept.
func (d *DB) Snap() uint64 {
	if d.closed() {
		return 0
	}
	d.kept[d.seq]++
	return d.seq
}

// Release lets a sequence be kept once less.
func (d *DB) Release(seq uint64) api.Errno {
	if d.closed() {
		return api.ErrClosed
	}
	times, is := d.kept[seq]
	if !is {
		return api.ErrNone
	}
	if times == 1 {
		delete(d.kept, seq)
		return api.OK
	}
	d.kept[seq] = times - 1
	return api.OK
}

// oldest is the least sequence at which all can be read.
func (d *DB) oldest() uint64 {
	least := d.seq
	for seq := range d.kept {
		least = min(least, seq)
	}
	return least
}
