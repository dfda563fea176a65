package lsm

import (
	"slices"
	"strings"

	"atrium/api"
	"atrium/manifest"
	"atrium/vfs"
	"atrium/wal"
)

const (
	currentName = "current"
	freshName   = "current-tmp"
	tablePrefix = "table-"
	logPrefix   = "wal-" // of wal's names, whose digits are the tables', too
)

// tableName is the name of a table's file.
func tableName(number int) string {
	return tablePrefix + strings.TrimPrefix(wal.Name(number), logPrefix)
}

// tableNumber is the number of such a name.
func tableNumber(name string) (int, bool) {
	digits, is := strings.CutPrefix(name, tablePrefix)
	if !is {
		return 0, false
	}
	return wal.Number(logPrefix + digits)
}

// above is the first number from next on that is above those of all files.
func above(f *vfs.FS, next int) int {
	for _, name := range f.List() {
		for _, number := range []func(string) (int, bool){wal.Number, manifest.Number, tableNumber} {
			if n, is := number(name); is {
				next = max(next, n+1)
			}
		}
	}
	return next
}

// logs is the numbers of the logs from first on, rising.
func logs(f *vfs.FS, first int) []int {
	var l []int
	for _, name := range f.List() {
		if n, is := wal.Number(name); is && n >= first {
			l = append(l, n)
		}
	}
	slices.Sort(l)
	return l
}

// fits tells whether there is room for so many more files, and bytes in them. What is written behind that is not refused, unless the power is gone: then a file is not there that was made.
func fits(f *vfs.FS, files, bytes int) bool {
	return len(f.List())+files <= api.MaxFiles && bytes <= f.Left()
}

// inTurn does steps, one behind the other, up to the first that is refused.
func inTurn(steps ...func() api.Errno) api.Errno {
	for _, step := range steps {
		if e := step(); e != api.OK {
			return e
		}
	}
	return api.OK
}

// has tells whether there is such a file.
func has(f *vfs.FS, name string) bool {
	_, e := f.Size(name)
	return e == api.OK
}

// read is a file's bytes.
func read(f *vfs.FS, name string) ([]byte, api.Errno) {
	n, e := f.Size(name)
	if e != api.OK {
		return nil, e
	}
	return f.Read(name, 0, n)
}

// add puts bytes behind a file's, and lets them last.
func add(f *vfs.FS, name string, b []byte) api.Errno {
	return inTurn(
		func() api.Errno { return f.Append(name, b) },
		func() api.Errno { return f.Sync(name) },
	)
}

// put makes a file with bytes that last; its name lasts once the directory does.
func put(f *vfs.FS, name string, b []byte) api.Errno {
	return inTurn(
		func() api.Errno { return f.Create(name) },
		func() api.Errno { return add(f, name, b) },
	)
}

// point lets current be a text: it is what it was, or that, wherever the power goes. What was made ahead lasts if the new name does, as the directory keeps its operations in order.
func point(f *vfs.FS, text string) api.Errno {
	if has(f, freshName) { // from an opening that did not come to its end
		if e := f.Remove(freshName); e != api.OK {
			return e
		}
	}
	return inTurn(
		func() api.Errno { return put(f, freshName, []byte(text)) },
		func() api.Errno { return f.Rename(freshName, currentName) },
		f.SyncDir,
	)
}

// tidy removes what a state and its manifest do not need, and lets that last: what came back behind a crash would take room that others have by then.
func tidy(f *vfs.FS, s api.State, pointed int) api.Errno {
	spare := slices.DeleteFunc(f.List(), needed(s, pointed))
	if len(spare) == 0 {
		return api.OK
	}
	for _, name := range spare {
		if e := f.Remove(name); e != api.OK {
			return e
		}
	}
	return f.SyncDir()
}

// needed tells of a name whether a state and its manifest need that file; files that no engine makes are left alone.
func needed(s api.State, pointed int) func(name string) bool {
	tables := manifest.Files(s)
	return func(name string) bool {
		if n, is := wal.Number(name); is {
			return n >= s.Log
		}
		if n, is := manifest.Number(name); is {
			return n == pointed
		}
		if n, is := tableNumber(name); is {
			_, found := slices.BinarySearch(tables, n)
			return found
		}
		return name != freshName
	}
}
