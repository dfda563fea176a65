package lsm

import (
	"slices"

	"atrium/api"
	"atrium/manifest"
	"atrium/mem"
	"atrium/merge"
	"atrium/pick"
	"atrium/table"
	"atrium/vfs"
	"atrium/wal"
)

// laid is a table that is to be a file.
type laid struct {
	sst   api.Sst
	bytes []byte
	table *table.Table
}

// build is cells as tables, with numbers from first on.
func build(l []api.Cell, o api.Options, first int) ([]laid, api.Errno) {
	var all []laid
	for i, piece := range pick.Split(l, o) {
		b, e := table.Build(piece, o.Shape)
		if e != api.OK {
			return nil, api.ErrFull
		}
		t, _ := table.Open(b) // what was built is a table
		all = append(all, laid{sst(first+i, len(b), t), b, t})
	}
	return all, api.OK
}

// weight is how many bytes tables have.
func weight(l []laid) int {
	sum := 0
	for _, x := range l {
		sum += len(x.bytes)
	}
	return sum
}

// placed is tables on a level.
func placed(l []laid, level int) []api.Placed {
	var all []api.Placed
	for _, x := range l {
		all = append(all, api.Placed{Level: level, Sst: x.sst})
	}
	return all
}

// putAll makes the files of tables.
func putAll(f *vfs.FS, l []laid) api.Errno {
	for _, x := range l {
		if e := put(f, tableName(x.sst.Number), x.bytes); e != api.OK {
			return e
		}
	}
	return api.OK
}

// layEdit is the bytes of an edit behind at bytes of a manifest.
func layEdit(at int, edit api.Edit) ([]byte, api.Errno) {
	rec, e := manifest.Encode(edit)
	if e != api.OK {
		return nil, api.ErrFull
	}
	w, _ := wal.NewWriter(at) // a manifest is never longer than a file may be
	b, e := w.Lay(rec)
	if e != api.OK {
		return nil, api.ErrFull
	}
	return b, api.OK
}

// adopt takes a state that the manifest says, and its new tables.
func (d *DB) adopt(s api.State, added []laid) {
	d.state = s
	d.next = s.Next
	for _, x := range added {
		d.tables[x.sst.Number] = x.table
	}
}

// Freeze lets the cells in memory wait to be laid down.
func (d *DB) Freeze() api.Errno {
	if d.closed() {
		return api.ErrClosed
	}
	if d.stopped {
		return api.ErrStopped
	}
	if d.frozen != nil {
		return api.ErrFull
	}
	if d.mem.Len() == 0 {
		return api.OK
	}
	if !d.mayRoll() {
		return api.ErrFull
	}
	return d.roll()
}

// mayRoll tells whether there is a number and room for a new log.
func (d *DB) mayRoll() bool {
	return d.next <= api.MaxNumber && fits(d.fs, 1, 0)
}

// roll freezes the cells in memory; what is written next goes to a new log. Its name must last ahead of that.
func (d *DB) roll() api.Errno {
	e := inTurn(
		func() api.Errno { return d.fs.Create(wal.Name(d.next)) },
		d.fs.SyncDir,
	)
	if e != api.OK {
		return d.stop()
	}
	d.frozen, d.until = d.mem, d.seq
	d.mem = mem.New()
	d.log, d.logged = d.next, 0
	d.next++
	return api.OK
}

// Flush lays down what is frozen.
func (d *DB) Flush() (bool, api.Errno) {
	if d.closed() {
		return false, api.ErrClosed
	}
	if d.stopped {
		return false, api.ErrStopped
	}
	if d.frozen == nil {
		return false, api.OK
	}
	left := merge.Drop(d.frozen.Cells(), d.oldest(), false)
	if e := d.commit(api.Edit{Log: d.log, Seq: d.until}, 0, left); e != api.OK {
		return false, e
	}
	d.frozen = nil
	return d.tidied()
}

// Compact merges what is to be merged next.
func (d *DB) Compact() (bool, api.Errno) {
	if d.closed() {
		return false, api.ErrClosed
	}
	if d.stopped {
		return false, api.ErrStopped
	}
	job, is := pick.Next(d.state.Version, d.options)
	if !is {
		return false, api.OK
	}
	var lists [][]api.Cell
	for _, at := range job.Inputs {
		lists = append(lists, slices.Collect(d.tables[at.Number].Scan("", "")))
	}
	left := merge.Drop(merge.Merge(lists...), d.oldest(), job.Bottom)
	edit := api.Edit{Log: d.state.Log, Seq: d.state.Seq, Gone: job.Inputs}
	if e := d.commit(edit, job.Level+1, left); e != api.OK {
		return false, e
	}
	for _, at := range job.Inputs {
		delete(d.tables, at.Number)
	}
	return d.tidied()
}

// commit lays cells down as tables of a level, and lets the manifest say an edit that has them. The names must last ahead of that.
func (d *DB) commit(edit api.Edit, level int, l []api.Cell) api.Errno {
	added, e := build(l, d.options, d.next)
	if e != api.OK {
		return e
	}
	edit.Next = d.next + len(added)
	edit.Added = placed(added, level)
	s, e := manifest.Apply(d.state, edit)
	if e != api.OK { // too many tables, or no number left
		return api.ErrFull
	}
	b, e := layEdit(d.said, edit)
	if e != api.OK || !fits(d.fs, len(added), weight(added)+len(b)) {
		return api.ErrFull
	}
	e = inTurn(
		func() api.Errno { return putAll(d.fs, added) },
		d.fs.SyncDir,
		func() api.Errno { return add(d.fs, manifest.Name(d.manifest), b) },
	)
	if e != api.OK {
		return d.stop()
	}
	d.said += len(b)
	d.adopt(s, added)
	return api.OK
}

// tidied removes what is not needed any more.
func (d *DB) tidied() (bool, api.Errno) {
	if tidy(d.fs, d.state, d.manifest) != api.OK {
		return false, d.stop()
	}
	return true, api.OK
}
