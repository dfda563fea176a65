package vfs

import (
	"slices"

	"atrium/api"
)

const maxName = 64

// file is a file's bytes; the first synced ones last.
type file struct {
	bytes  []byte
	synced int
}

// twin is a file with the same bytes.
func (x *file) twin() *file {
	return &file{bytes: slices.Clone(x.bytes), synced: x.synced}
}

// cut is what a crash leaves of a file: what lasts, and so many of the other bytes.
func (x *file) cut(keep int) {
	x.synced += min(keep, len(x.bytes)-x.synced)
	x.bytes = x.bytes[:x.synced]
}

// change is an operation that turned the directory: OpCreate of name with the file that it made, OpRename of name to another one, OpRemove of name.
type change struct {
	op   int
	name string
	to   string
	made *file
}

// apply does the change to a directory.
func (c change) apply(dir map[string]*file) {
	switch c.op {
	case api.OpCreate:
		dir[c.name] = c.made
	case api.OpRename:
		x := dir[c.name]
		delete(dir, c.name) // first: both names may be the same
		dir[c.to] = x
	case api.OpRemove:
		delete(dir, c.name)
	}
}

// turn does a change to the directory as it is seen; it lasts only behind SyncDir.
func (f *FS) turn(c change) {
	c.apply(f.seen)
	f.pending = append(f.pending, c)
}

// names is a directory's names, rising.
func names(dir map[string]*file) []string {
	var l []string
	for name := range dir {
		l = append(l, name)
	}
	slices.Sort(l)
	return l
}

// isName tells whether a file may have that name.
func isName(s string) bool {
	if len(s) < 1 || len(s) > maxName {
		return false
	}
	for i := range len(s) {
		if !isNameByte(s[i]) {
			return false
		}
	}
	return true
}

func isNameByte(c byte) bool {
	return c >= 'a' && c <= 'z' || c >= '0' && c <= '9' || c == '.' || c == '-'
}
