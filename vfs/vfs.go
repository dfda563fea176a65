// Package vfs is layer 1: a file system that is played. See shared/doc/01-vfs.md.
package vfs

import (
	"maps"
	"slices"

	"atrium/api"
)

// FS is files and a directory. The directory as it is seen is always what lasts of it with all pending changes done: Fork leans on that.
type FS struct {
	capacity int
	seen     map[string]*file
	lasting  map[string]*file
	pending  []change
	faults   []api.Fault
	since    counts // from the last Fail on
	ops      counts // from New on
	failed   int
	power    int // operations till the power goes; below 0: it does not
}

// counts is how many operations there were, by their kinds.
type counts [api.OpRead + 1]int

// New is an empty directory on a disk of that capacity.
func New(capacity int) (*FS, api.Errno) {
	if capacity < 0 || capacity > api.MaxDisk {
		return nil, api.ErrArg
	}
	return &FS{
		capacity: capacity,
		seen:     map[string]*file{},
		lasting:  map[string]*file{},
		power:    -1,
	}, api.OK
}

// closed tells whether no call of this package made f: its maps could not be written to.
func (f *FS) closed() bool {
	return f == nil || f.seen == nil
}

// Size is how many bytes a file has.
func (f *FS) Size(name string) (int, api.Errno) {
	if f.closed() {
		return 0, api.ErrClosed
	}
	x, ok := f.seen[name]
	if !ok {
		return 0, api.ErrNone
	}
	return len(x.bytes), api.OK
}

// List is the names that the directory has, rising.
func (f *FS) List() []string {
	if f.closed() {
		return nil
	}
	return names(f.seen)
}

// Files is all files, by their names.
func (f *FS) Files() []api.File {
	if f.closed() {
		return nil
	}
	var l []api.File
	for _, name := range names(f.seen) {
		x := f.seen[name]
		l = append(l, api.File{Name: name, Bytes: slices.Clone(x.bytes), Synced: x.synced})
	}
	return l
}

// Pending is how many of the directory's operations do not last yet.
func (f *FS) Pending() int {
	if f.closed() {
		return 0
	}
	return len(f.pending)
}

// Left is the disk's room. It is below 0 where a crash brought removed files back beside those that took their room.
func (f *FS) Left() int {
	if f.closed() {
		return 0
	}
	left := f.capacity
	for _, x := range f.seen {
		left -= len(x.bytes)
	}
	return left
}

// Ops is how many operations there were, and how many of them failed.
func (f *FS) Ops() api.Ops {
	if f.closed() {
		return api.Ops{}
	}
	return api.Ops{
		Creates:  f.ops[api.OpCreate],
		Appends:  f.ops[api.OpAppend],
		Syncs:    f.ops[api.OpSync],
		Renames:  f.ops[api.OpRename],
		Removes:  f.ops[api.OpRemove],
		SyncDirs: f.ops[api.OpSyncDir],
		Reads:    f.ops[api.OpRead],
		Failed:   f.failed,
	}
}

// Fork is another one that is the same in all. A file stands once in what lasts or in the change that made it, so copying these and doing the changes anew keeps which names share a file.
func (f *FS) Fork() *FS {
	if f.closed() {
		return nil
	}
	g := *f
	g.faults = slices.Clone(f.faults)
	g.lasting = map[string]*file{}
	for name, x := range f.lasting {
		g.lasting[name] = x.twin()
	}
	g.seen = maps.Clone(g.lasting)
	g.pending = nil
	for _, c := range f.pending {
		if c.made != nil {
			c.made = c.made.twin()
		}
		g.turn(c)
	}
	return &g
}
