package vfs

import (
	"slices"

	"atrium/api"
)

// Fail says which operations fail from now on.
func (f *FS) Fail(l []api.Fault) api.Errno {
	if f.closed() {
		return api.ErrClosed
	}
	if !faultsMayBe(l) {
		return api.ErrArg
	}
	f.faults = slices.Clone(l)
	f.since = counts{}
	return api.OK
}

func faultsMayBe(l []api.Fault) bool {
	if len(l) > api.MaxFaults {
		return false
	}
	for i, x := range l {
		if x.Op < api.OpCreate || x.Op > api.OpRead || x.Nth < 1 {
			return false
		}
		if x.Kind != api.FaultClean && x.Kind != api.FaultDone {
			return false
		}
		for _, y := range l[:i] {
			if x.Op == y.Op && x.Nth == y.Nth {
				return false
			}
		}
	}
	return true
}

// begin counts an operation that was not refused: whether it is to be done, and what it tells.
func (f *FS) begin(op int) (bool, api.Errno) {
	if op != api.OpRead {
		if f.power == 0 {
			return false, api.OK
		}
		if f.power > 0 {
			f.power--
		}
	}
	f.ops[op]++
	f.since[op]++
	for _, x := range f.faults {
		if x.Op == op && x.Nth == f.since[op] {
			f.failed++
			return x.Kind == api.FaultDone, api.ErrIO
		}
	}
	return true, api.OK
}

// Create makes a file without bytes.
func (f *FS) Create(name string) api.Errno {
	if f.closed() {
		return api.ErrClosed
	}
	if !isName(name) {
		return api.ErrName
	}
	if _, ok := f.seen[name]; ok {
		return api.ErrExist
	}
	if len(f.seen) >= api.MaxFiles {
		return api.ErrFull
	}
	done, e := f.begin(api.OpCreate)
	if done {
		f.turn(change{op: api.OpCreate, name: name, made: &file{}})
	}
	return e
}

// Append puts bytes behind a file's.
func (f *FS) Append(name string, b []byte) api.Errno {
	if f.closed() {
		return api.ErrClosed
	}
	x, ok := f.seen[name]
	if !ok {
		return api.ErrNone
	}
	if len(b) > api.MaxFile-len(x.bytes) {
		return api.ErrLong
	}
	if len(b) > f.Left() {
		return api.ErrFull
	}
	done, e := f.begin(api.OpAppend)
	if done {
		x.bytes = append(x.bytes, b...)
	}
	return e
}

// Sync makes a file's bytes last.
func (f *FS) Sync(name string) api.Errno {
	if f.closed() {
		return api.ErrClosed
	}
	x, ok := f.seen[name]
	if !ok {
		return api.ErrNone
	}
	done, e := f.begin(api.OpSync)
	if done {
		x.synced = len(x.bytes)
	}
	return e
}

// Rename gives a file another name; what stood there is gone from the directory.
func (f *FS) Rename(old, to string) api.Errno {
	if f.closed() {
		return api.ErrClosed
	}
	if _, ok := f.seen[old]; !ok {
		return api.ErrNone
	}
	if !isName(to) {
		return api.ErrName
	}
	done, e := f.begin(api.OpRename)
	if done {
		f.turn(change{op: api.OpRename, name: old, to: to})
	}
	return e
}

// Remove takes a file out of the directory.
func (f *FS) Remove(name string) api.Errno {
	if f.closed() {
		return api.ErrClosed
	}
	if _, ok := f.seen[name]; !ok {
		return api.ErrNone
	}
	done, e := f.begin(api.OpRemove)
	if done {
		f.turn(change{op: api.OpRemove, name: name})
	}
	return e
}

// SyncDir makes the directory last as it is seen.
func (f *FS) SyncDir() api.Errno {
	if f.closed() {
		return api.ErrClosed
	}
	done, e := f.begin(api.OpSyncDir)
	if done {
		f.settle(f.seen)
	}
	return e
}

// Read is some of a file's bytes.
func (f *FS) Read(name string, offset, n int) ([]byte, api.Errno) {
	if f.closed() {
		return nil, api.ErrClosed
	}
	x, ok := f.seen[name]
	if !ok {
		return nil, api.ErrNone
	}
	if offset < 0 || n < 0 || offset > len(x.bytes) || n > len(x.bytes)-offset {
		return nil, api.ErrRange
	}
	if _, e := f.begin(api.OpRead); e != api.OK {
		return nil, e
	}
	return slices.Clone(x.bytes[offset : offset+n]), api.OK
}
