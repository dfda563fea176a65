package lsm

import (
	"atrium/api"
	"atrium/manifest"
	"atrium/mem"
	"atrium/merge"
	"atrium/table"
	"atrium/vfs"
	"atrium/wal"
)

// noManifest is the number of none.
const noManifest = -1

// Open is an engine on a file system: what it finds there is laid down, and a new log and a new manifest are begun.
func Open(f *vfs.FS, o api.Options) (*DB, api.Errno) {
	if e := Check(o); e != api.OK {
		return nil, e
	}
	if f == nil {
		return nil, api.ErrArg
	}
	d := &DB{fs: f, options: o, mem: mem.New(), kept: map[uint64]int{}}
	if e := d.load(); e != api.OK {
		return nil, e
	}
	found, e := d.replay()
	if e != api.OK {
		return nil, e
	}
	if e := d.begin(found); e != api.OK {
		return nil, e
	}
	return d, api.OK
}

// load takes the state, and the tables that it has, from the files.
func (d *DB) load() api.Errno {
	d.state = api.State{Next: 1}
	d.manifest = noManifest
	if has(d.fs, currentName) {
		text, e := read(d.fs, currentName)
		if e != api.OK {
			return e
		}
		if e := d.loadPointed(string(text)); e != api.OK {
			return e
		}
	}
	tables, e := openAll(d.fs, d.state)
	d.tables = tables
	return e
}

// loadPointed takes the state from the manifest that a text points to.
func (d *DB) loadPointed(text string) api.Errno {
	number, is := manifest.Pointed(text)
	if !is {
		return api.ErrDamaged
	}
	b, e := read(d.fs, manifest.Name(number))
	if e != api.OK {
		return api.ErrDamaged
	}
	s, _, e := manifest.Load(b)
	if e != api.OK {
		return api.ErrDamaged
	}
	d.state, d.manifest = s, number
	return api.OK
}

// openAll is the tables of a state, by their numbers.
func openAll(f *vfs.FS, s api.State) (map[int]*table.Table, api.Errno) {
	tables := map[int]*table.Table{}
	for _, level := range s.Version.Levels {
		for _, x := range level {
			t, e := openTable(f, x)
			if e != api.OK {
				return nil, e
			}
			tables[x.Number] = t
		}
	}
	return tables, api.OK
}

// openTable is the table of a file, if that is as a state says.
func openTable(f *vfs.FS, x api.Sst) (*table.Table, api.Errno) {
	b, e := read(f, tableName(x.Number))
	if e != api.OK {
		return nil, api.ErrDamaged
	}
	t, e := table.Open(b)
	if e != api.OK || sst(x.Number, len(b), t) != x {
		return nil, api.ErrDamaged
	}
	return t, api.OK
}

// sst is what a state says of a table's file.
func sst(number, size int, t *table.Table) api.Sst {
	return api.Sst{Number: number, Size: size, Count: t.Count(), First: t.First(), Last: t.Last()}
}

// replay is what the logs say beyond the state, without what nobody reads any more.
func (d *DB) replay() ([]api.Cell, api.Errno) {
	d.seq = d.state.Seq
	var batches [][]api.Cell
	for _, n := range logs(d.fs, d.state.Log) {
		b, e := read(d.fs, wal.Name(n))
		if e != api.OK {
			return nil, e
		}
		recs, _, why := wal.Scan(b)
		if why == api.EndBad {
			return nil, api.ErrDamaged
		}
		for _, rec := range recs {
			seq, l, e := Batch(rec)
			if e != api.OK || seq != d.seq+1 {
				return nil, api.ErrDamaged
			}
			d.seq = seq
			batches = append(batches, cells(seq, l))
		}
	}
	return merge.Drop(merge.Merge(batches...), d.seq, false), api.OK
}

// begin lays cells down, and begins a log and a manifest.
func (d *DB) begin(found []api.Cell) api.Errno {
	first := above(d.fs, d.state.Next)
	added, e := build(found, d.options, first)
	if e != api.OK {
		return e
	}
	log := first + len(added)
	pointed := log + 1
	s, e := manifest.Apply(d.state, api.Edit{Log: log, Next: pointed + 1, Seq: d.seq, Added: placed(added, 0)})
	if e != api.OK {
		return api.ErrFull
	}
	b, e := layEdit(0, manifest.Whole(s))
	if e != api.OK {
		return e
	}
	text := manifest.Current(pointed)
	files := len(added) + 3 // the log, the manifest, current-tmp
	if e := d.makeRoom(files, weight(added)+len(b)+len(text)); e != api.OK {
		return e
	}
	e = inTurn(
		func() api.Errno { return putAll(d.fs, added) },
		func() api.Errno { return d.fs.Create(wal.Name(log)) },
		func() api.Errno { return put(d.fs, manifest.Name(pointed), b) },
		func() api.Errno { return point(d.fs, text) },
		func() api.Errno { return tidy(d.fs, s, pointed) },
	)
	if e != api.OK {
		return api.ErrIO
	}
	d.log, d.manifest, d.said = log, pointed, len(b)
	d.adopt(s, added)
	return api.OK
}

// makeRoom sees to it that there is room. Where there is none, it is looked for among what a crash left behind; what the state is told by must last ahead of that.
func (d *DB) makeRoom(files, bytes int) api.Errno {
	if fits(d.fs, files, bytes) {
		return api.OK
	}
	e := inTurn(
		d.settle,
		func() api.Errno { return tidy(d.fs, d.state, d.manifest) },
	)
	if e != api.OK {
		return api.ErrIO
	}
	if !fits(d.fs, files, bytes) {
		return api.ErrFull
	}
	return api.OK
}

// settle lets the manifest that was found last as it was read.
func (d *DB) settle() api.Errno {
	if d.manifest == noManifest {
		return api.OK
	}
	return d.fs.Sync(manifest.Name(d.manifest))
}
