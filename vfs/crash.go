package vfs

import (
	"maps"

	"atrium/api"
)

// Stop says behind how many operations the power goes.
func (f *FS) Stop(n int) {
	if !f.closed() {
		f.power = n
	}
}

// Off tells whether the power is gone.
func (f *FS) Off() bool {
	return !f.closed() && f.power == 0
}

// Crash keeps of what does not last yet what c says.
func (f *FS) Crash(c api.Crash) api.Errno {
	if f.closed() {
		return api.ErrClosed
	}
	if !f.crashMayBe(c) {
		return api.ErrArg
	}
	dir := f.lasting
	for _, x := range f.pending[:c.Dir] {
		x.apply(dir)
	}
	for i, name := range names(dir) {
		keep := 0
		if i < len(c.Keep) {
			keep = c.Keep[i]
		}
		dir[name].cut(keep)
	}
	f.settle(dir)
	f.faults = nil
	f.power = -1
	return api.OK
}

func (f *FS) crashMayBe(c api.Crash) bool {
	if c.Dir < 0 || c.Dir > len(f.pending) {
		return false
	}
	for _, n := range c.Keep {
		if n < 0 {
			return false
		}
	}
	return true
}

// settle makes dir the directory that is seen and that lasts; these are two maps, as only one of them is turned by what comes next.
func (f *FS) settle(dir map[string]*file) {
	f.seen = dir
	f.lasting = maps.Clone(dir)
	f.pending = nil
}
