package vfs_test

import (
	"bytes"
	"math"
	"reflect"
	"slices"
	"strconv"
	"strings"
	"testing"

	"atrium/api"
	"atrium/vfs"
)

// open is a file system of that capacity.
func open(t *testing.T, capacity int) *vfs.FS {
	t.Helper()
	f, e := vfs.New(capacity)
	if e != api.OK || f == nil {
		t.Fatal("New", capacity, e)
	}
	return f
}

// want fails the test, if what was told is not what should be.
func want[T any](t *testing.T, what string, got, should T) {
	t.Helper()
	if !reflect.DeepEqual(got, should) {
		t.Errorf("%s: %v, not %v", what, got, should)
	}
}

// ok fails the test, if an operation is refused or fails.
func ok(t *testing.T, l ...api.Errno) {
	t.Helper()
	for i, e := range l {
		if e != api.OK {
			t.Fatal("operation", i, "told", e)
		}
	}
}

// put makes a file with bytes that are not synced.
func put(t *testing.T, f *vfs.FS, name, s string) {
	t.Helper()
	ok(t, f.Create(name), f.Append(name, []byte(s)))
}

// text is all files as a text: each name, its bytes, a bar behind those that last.
func text(f *vfs.FS) string {
	var l []string
	for _, x := range f.Files() {
		l = append(l, x.Name+"="+string(x.Bytes[:x.Synced])+"|"+string(x.Bytes[x.Synced:]))
	}
	return strings.Join(l, " ")
}

func TestNewCapacity(t *testing.T) { // P1.1
	for _, n := range []int{math.MinInt, -1, api.MaxDisk + 1, math.MaxInt} {
		if f, e := vfs.New(n); f != nil || e != api.ErrArg {
			t.Error(n, f, e)
		}
	}
	for _, n := range []int{0, 1, api.MaxDisk} {
		f := open(t, n)
		want(t, "Left", f.Left(), n)
		want(t, "List", len(f.List()), 0)
		want(t, "Files", len(f.Files()), 0)
		want(t, "Pending", f.Pending(), 0)
		want(t, "Ops", f.Ops(), api.Ops{})
		want(t, "Off", f.Off(), false)
		ok(t, f.Crash(api.Crash{}))
		want(t, "Left behind a crash", f.Left(), n)
	}
}

func TestDiskIsFilledToItsLimit(t *testing.T) { // P1.1, P1.3
	f := open(t, api.MaxDisk)
	for i := range api.MaxDisk / api.MaxFile {
		name := strconv.Itoa(i)
		ok(t, f.Create(name), f.Append(name, make([]byte, api.MaxFile)))
	}
	want(t, "Left", f.Left(), 0)
	ok(t, f.Create("more"), f.Append("more", nil))
	want(t, "one byte more", f.Append("more", []byte{1}), api.ErrFull)
}

func TestWhatIsSeen(t *testing.T) { // P1.1
	f := open(t, 10)
	put(t, f, "c", "12")
	ok(t, f.Sync("c"), f.Append("c", []byte("3")))
	put(t, f, "a.b", "4567")
	put(t, f, "-", "")
	want(t, "Left", f.Left(), 3)
	want(t, "List", f.List(), []string{"-", "a.b", "c"})
	want(t, "Pending", f.Pending(), 3)
	want(t, "files", text(f), "-=| a.b=|4567 c=12|3")
	for name, size := range map[string]int{"c": 3, "a.b": 4, "-": 0} {
		n, e := f.Size(name)
		want(t, "Size of "+name, n, size)
		want(t, "Size of "+name, e, api.OK)
	}
	for _, name := range []string{"", "d", "C", "\x00"} {
		n, e := f.Size(name)
		want(t, "Size of none", n, 0)
		want(t, "Size of none", e, api.ErrNone)
	}
}

func TestRemovedAndRenamedOverGivesRoom(t *testing.T) { // P1.1, P1.3
	f := open(t, 10)
	put(t, f, "a", "1234")
	put(t, f, "b", "56")
	ok(t, f.Rename("b", "a"))
	want(t, "Left", f.Left(), 8)
	ok(t, f.Remove("a"))
	want(t, "Left", f.Left(), 10)
}

func TestFailRefuses(t *testing.T) { // P1.2
	bad := [][]api.Fault{
		{{Op: 0, Nth: 1, Kind: 1}},
		{{Op: -1, Nth: 1, Kind: 1}},
		{{Op: api.OpRead + 1, Nth: 1, Kind: 1}},
		{{Op: 1, Nth: 1, Kind: 0}},
		{{Op: 1, Nth: 1, Kind: -1}},
		{{Op: 1, Nth: 1, Kind: api.FaultDone + 1}},
		{{Op: 1, Nth: 0, Kind: 1}},
		{{Op: 1, Nth: math.MinInt, Kind: 1}},
		{{Op: 1, Nth: 1, Kind: 1}, {Op: 2, Nth: 1, Kind: 1}, {Op: 1, Nth: 1, Kind: 1}},
		{{Op: 1, Nth: 1, Kind: 1}, {Op: 1, Nth: 1, Kind: 2}},
		{{Op: 1, Nth: 1, Kind: 1}, {Op: 9, Nth: 1, Kind: 1}},
		many(api.MaxFaults + 1),
	}
	for i, l := range bad {
		f := open(t, 10)
		put(t, f, "a", "x")
		ok(t, f.Fail([]api.Fault{{Op: api.OpSync, Nth: 2, Kind: api.FaultClean}}), f.Sync("a"))
		want(t, "Fail "+strconv.Itoa(i), f.Fail(l), api.ErrArg)
		want(t, "what was to fail", f.Sync("a"), api.ErrIO) // the faults ahead, and how far they had counted, are as they were
	}
}

// many is so many faults that may be.
func many(n int) []api.Fault {
	var l []api.Fault
	for i := range n {
		l = append(l, api.Fault{Op: api.OpAppend, Nth: i + 1, Kind: api.FaultClean})
	}
	return l
}

func TestFailTakesMaxFaults(t *testing.T) { // P1.2
	f := open(t, 100)
	ok(t, f.Create("a"), f.Fail(many(api.MaxFaults)))
	for i := range api.MaxFaults {
		want(t, strconv.Itoa(i), f.Append("a", []byte("x")), api.ErrIO)
	}
	ok(t, f.Append("a", []byte("y")))
	want(t, "files", text(f), "a=|y")
	want(t, "Ops", f.Ops(), api.Ops{Creates: 1, Appends: api.MaxFaults + 1, Failed: api.MaxFaults})
}

func TestFaultsCountFromTheirFailOn(t *testing.T) { // P1.2
	f := open(t, 100)
	ok(t, f.Create("a"), f.Sync("a"), f.Sync("a"))
	ok(t, f.Fail([]api.Fault{{Op: api.OpSync, Nth: 2, Kind: 1}, {Op: api.OpAppend, Nth: 1, Kind: 2}, {Op: api.OpSync, Nth: math.MaxInt, Kind: 1}}))
	ok(t, f.Sync("a"), f.SyncDir(), f.Create("b"))
	want(t, "the second Sync", f.Sync("a"), api.ErrIO)
	ok(t, f.Sync("a"))
	want(t, "the first Append", f.Append("b", nil), api.ErrIO)
	ok(t, f.Append("b", nil))

	ok(t, f.Fail([]api.Fault{{Op: api.OpSync, Nth: 1, Kind: 1}}), f.Fail(nil), f.Sync("a")) // those ahead are forgotten
	ok(t, f.Fail([]api.Fault{{Op: api.OpSync, Nth: 2, Kind: 1}}), f.Sync("a"))
	ok(t, f.Fail([]api.Fault{{Op: api.OpSync, Nth: 2, Kind: 1}}), f.Sync("a"))
	want(t, "counted anew", f.Sync("a"), api.ErrIO)
}

func TestRefusedCountsForNothing(t *testing.T) { // P1.2, P1.3, P1.6
	var l []api.Fault
	for op := api.OpCreate; op <= api.OpRead; op++ {
		l = append(l, api.Fault{Op: op, Nth: 1, Kind: api.FaultClean})
	}
	f := open(t, 3)
	put(t, f, "a", "x")
	before := f.Ops()
	ok(t, f.Fail(l))
	f.Stop(100)
	want(t, "Create", []api.Errno{f.Create("A"), f.Create("a")}, []api.Errno{api.ErrName, api.ErrExist})
	want(t, "Append", []api.Errno{f.Append("b", nil), f.Append("a", make([]byte, 3))}, []api.Errno{api.ErrNone, api.ErrFull})
	want(t, "Sync, Remove", []api.Errno{f.Sync("b"), f.Remove("b")}, []api.Errno{api.ErrNone, api.ErrNone})
	want(t, "Rename", []api.Errno{f.Rename("b", "c"), f.Rename("a", "")}, []api.Errno{api.ErrNone, api.ErrName})
	_, e1 := f.Read("b", 0, 0)
	_, e2 := f.Read("a", 0, 2)
	want(t, "Read", []api.Errno{e1, e2}, []api.Errno{api.ErrNone, api.ErrRange})
	want(t, "Ops", f.Ops(), before)
	want(t, "files", text(f), "a=|x")
	want(t, "Pending", f.Pending(), 1)
	_, e := f.Read("a", 0, 0)
	told := []api.Errno{f.Create("b"), f.Append("a", nil), f.Sync("a"), f.Rename("a", "a"), f.Remove("a"), f.SyncDir(), e}
	want(t, "all fail", told, slices.Repeat([]api.Errno{api.ErrIO}, 7))
}

func TestNames(t *testing.T) { // P1.3
	f := open(t, 0)
	for c := range 256 {
		name := string([]byte{'a', byte(c)})
		should := api.ErrName
		if strings.IndexByte("abcdefghijklmnopqrstuvwxyz0123456789.-", byte(c)) >= 0 {
			should = api.OK
		}
		want(t, strconv.Quote(name), f.Create(name), should)
	}
	for _, name := range []string{".", "-", "..", "0", strings.Repeat("a", 64)} {
		ok(t, f.Create(name), f.Rename(name, name))
	}
	for _, name := range []string{"", strings.Repeat("a", 65), "A", "a/b", "a b", "ä", "a\x00", "a_"} {
		want(t, strconv.Quote(name), f.Create(name), api.ErrName)
		want(t, strconv.Quote(name), f.Rename("aa", name), api.ErrName)
		want(t, strconv.Quote(name), f.Rename(name, name), api.ErrNone)
	}
}

func TestMaxFiles(t *testing.T) { // P1.3
	f := open(t, 0)
	for i := range api.MaxFiles {
		ok(t, f.Create("f-"+strconv.Itoa(i)))
	}
	want(t, "one more", f.Create("more"), api.ErrFull)
	want(t, "a name first", f.Create("More"), api.ErrName)
	want(t, "that is there", f.Create("f-7"), api.ErrExist)
	want(t, "Pending", f.Pending(), api.MaxFiles)
	ok(t, f.Rename("f-0", "more"))
	want(t, "still as many", f.Create("f-0"), api.ErrFull)
	ok(t, f.Rename("f-1", "f-2"), f.Create("f-0"))
	want(t, "full again", f.Create("f-1"), api.ErrFull)
	ok(t, f.Remove("more"), f.Create("f-1"))
	want(t, "how many", len(f.List()), api.MaxFiles)
}

func TestMaxFile(t *testing.T) { // P1.3
	f := open(t, api.MaxFile+1)
	ok(t, f.Create("a"), f.Append("a", make([]byte, api.MaxFile-1)))
	want(t, "beyond it", f.Append("a", make([]byte, 2)), api.ErrLong)
	ok(t, f.Append("a", make([]byte, 1)), f.Append("a", nil))
	want(t, "one more", f.Append("a", make([]byte, 1)), api.ErrLong)
	want(t, "too long ahead of no room", f.Append("a", make([]byte, 3)), api.ErrLong)
	n, _ := f.Size("a")
	want(t, "Size", n, api.MaxFile)
	want(t, "Left", f.Left(), 1)
	want(t, "none ahead of too long", f.Append("b", make([]byte, api.MaxFile+2)), api.ErrNone)
	want(t, "another one, too long", open2(t, f, "b").Append("b", make([]byte, api.MaxFile+1)), api.ErrLong)
	want(t, "another one, no room", f.Append("b", make([]byte, 2)), api.ErrFull)
}

// open2 makes one more file, and is the file system.
func open2(t *testing.T, f *vfs.FS, name string) *vfs.FS {
	t.Helper()
	ok(t, f.Create(name))
	return f
}

func TestAppend(t *testing.T) { // P1.3
	f := open(t, 5)
	put(t, f, "a", "12")
	put(t, f, "b", "3")
	want(t, "beyond the room", f.Append("a", []byte("456")), api.ErrFull)
	ok(t, f.Append("a", []byte("45")), f.Append("b", nil), f.Append("b", []byte{}))
	want(t, "no room", f.Append("b", []byte("6")), api.ErrFull)
	want(t, "files", text(f), "a=|1245 b=|3")
	want(t, "Pending", f.Pending(), 2)
}

func TestSync(t *testing.T) { // P1.3
	f := open(t, 9)
	put(t, f, "a", "12")
	put(t, f, "b", "3")
	ok(t, f.Sync("a"), f.Append("a", []byte("4")))
	want(t, "files", text(f), "a=12|4 b=|3")
	ok(t, f.Sync("a"), f.Sync("a"))
	want(t, "files", text(f), "a=124| b=|3")
	want(t, "none", f.Sync("c"), api.ErrNone)
}

func TestRename(t *testing.T) { // P1.3
	f := open(t, 9)
	put(t, f, "a", "1")
	put(t, f, "b", "2")
	ok(t, f.Rename("a", "c"))
	want(t, "to a new name", text(f), "b=|2 c=|1")
	ok(t, f.Rename("c", "b"))
	want(t, "over a name", text(f), "b=|1")
	want(t, "none any more", f.Rename("c", "b"), api.ErrNone)
	want(t, "none ahead of the name", f.Rename("c", "B"), api.ErrNone)
	want(t, "a name that may not be", f.Rename("b", "B"), api.ErrName)
	want(t, "Pending", f.Pending(), 4)
	ok(t, f.Rename("b", "b"))
	want(t, "the same name", text(f), "b=|1")
	want(t, "it is pending", f.Pending(), 5)
	ok(t, f.Append("b", []byte("x")), f.Crash(api.Crash{Dir: 5, Keep: []int{9}}))
	want(t, "behind a crash", text(f), "b=1x|")
}

func TestRemove(t *testing.T) { // P1.3
	f := open(t, 9)
	put(t, f, "a", "1")
	ok(t, f.Remove("a"))
	want(t, "gone", text(f), "")
	want(t, "none", f.Remove("a"), api.ErrNone)
	want(t, "Pending", f.Pending(), 2)
	ok(t, f.Create("a"))
	want(t, "another file", text(f), "a=|")
}

func TestSyncDir(t *testing.T) { // P1.3
	f := open(t, 9)
	put(t, f, "a", "1")
	put(t, f, "b", "2")
	ok(t, f.Remove("b"), f.SyncDir())
	want(t, "Pending", f.Pending(), 0)
	want(t, "bytes are not synced by it", text(f), "a=|1")
	ok(t, f.Crash(api.Crash{}))
	want(t, "the name lasts", text(f), "a=|")
	put(t, f, "c", "3")
	ok(t, f.Remove("a"), f.Crash(api.Crash{}))
	want(t, "what came since does not", text(f), "a=|")
}

// an operation of each kind on "a" (of two bytes, one of them synced, its name not lasting), and what stands behind it if it is done.
type one struct {
	op      int
	do      func(f *vfs.FS) api.Errno
	done    string
	pending int
	ops     api.Ops
}

func each() []one {
	return []one{
		{api.OpCreate, func(f *vfs.FS) api.Errno { return f.Create("b") }, "a=1|2 b=|", 2, api.Ops{Creates: 2, Appends: 2, Syncs: 1}},
		{api.OpAppend, func(f *vfs.FS) api.Errno { return f.Append("a", []byte("3")) }, "a=1|23", 1, api.Ops{Creates: 1, Appends: 3, Syncs: 1}},
		{api.OpSync, func(f *vfs.FS) api.Errno { return f.Sync("a") }, "a=12|", 1, api.Ops{Creates: 1, Appends: 2, Syncs: 2}},
		{api.OpRename, func(f *vfs.FS) api.Errno { return f.Rename("a", "c") }, "c=1|2", 2, api.Ops{Creates: 1, Appends: 2, Syncs: 1, Renames: 1}},
		{api.OpRemove, func(f *vfs.FS) api.Errno { return f.Remove("a") }, "", 2, api.Ops{Creates: 1, Appends: 2, Syncs: 1, Removes: 1}},
		{api.OpSyncDir, func(f *vfs.FS) api.Errno { return f.SyncDir() }, "a=1|2", 0, api.Ops{Creates: 1, Appends: 2, Syncs: 1, SyncDirs: 1}},
		{api.OpRead, func(f *vfs.FS) api.Errno { _, e := f.Read("a", 0, 2); return e }, "a=1|2", 1, api.Ops{Creates: 1, Appends: 2, Syncs: 1, Reads: 1}},
	}
}

func ahead(t *testing.T) *vfs.FS {
	t.Helper()
	f := open(t, 9)
	put(t, f, "a", "1")
	ok(t, f.Sync("a"), f.Append("a", []byte("2")))
	return f
}

func TestEachOperation(t *testing.T) { // P1.3, P1.4, P1.6
	for _, x := range each() {
		f := ahead(t)
		ok(t, x.do(f))
		want(t, "files", text(f), x.done)
		want(t, "Pending", f.Pending(), x.pending)
		want(t, "Ops", f.Ops(), x.ops)
	}
}

func TestFaultsOfBothKinds(t *testing.T) { // P1.2, P1.3, P1.4, P1.6
	for _, x := range each() {
		ops := x.ops
		ops.Failed = 1

		f := ahead(t)
		ok(t, f.Fail([]api.Fault{{Op: x.op, Nth: 1, Kind: api.FaultClean}}))
		want(t, "clean", x.do(f), api.ErrIO)
		want(t, "nothing is done", text(f), "a=1|2")
		want(t, "nothing is pending", f.Pending(), 1)
		want(t, "Ops", f.Ops(), ops)
		ok(t, x.do(f))
		want(t, "done the second time", text(f), x.done)

		f = ahead(t)
		ok(t, f.Fail([]api.Fault{{Op: x.op, Nth: 1, Kind: api.FaultDone}}))
		want(t, "done", x.do(f), api.ErrIO)
		want(t, "it is done", text(f), x.done)
		want(t, "pending", f.Pending(), x.pending)
		want(t, "Ops", f.Ops(), ops)
	}
}

func TestFaultOfOneKindOnly(t *testing.T) { // P1.2
	for op := api.OpCreate; op <= api.OpRead; op++ {
		for _, x := range each() {
			f := ahead(t)
			ok(t, f.Fail([]api.Fault{{Op: op, Nth: 1, Kind: api.FaultClean}}))
			if e := x.do(f); (e == api.ErrIO) != (x.op == op) {
				t.Error("a fault of", op, "at", x.op, "told", e)
			}
		}
	}
}

func TestRead(t *testing.T) { // P1.4
	f := open(t, 9)
	put(t, f, "a", "0123")
	ok(t, f.Sync("a"), f.Append("a", []byte("45")))
	for offset := range 7 {
		for n := range 7 - offset {
			b, e := f.Read("a", offset, n)
			want(t, "bytes", string(b), "012345"[offset:offset+n])
			want(t, "told", e, api.OK)
		}
	}
	for _, x := range [][2]int{{0, 7}, {1, 6}, {6, 1}, {7, 0}, {-1, 1}, {0, -1}, {-1, -1}, {3, -2}, {math.MaxInt, math.MaxInt}, {1, math.MaxInt}, {math.MaxInt, 1}, {math.MinInt, 0}, {math.MinInt, math.MinInt}} {
		b, e := f.Read("a", x[0], x[1])
		want(t, "beyond", len(b), 0)
		want(t, "beyond", e, api.ErrRange)
		_, e = f.Read("b", x[0], x[1])
		want(t, "none first", e, api.ErrNone)
	}
	want(t, "Reads", f.Ops().Reads, 28)
}

func TestReadThatFailsTellsNoBytes(t *testing.T) { // P1.4
	for kind := api.FaultClean; kind <= api.FaultDone; kind++ {
		f := ahead(t)
		ok(t, f.Fail([]api.Fault{{Op: api.OpRead, Nth: 1, Kind: kind}}))
		b, e := f.Read("a", 0, 2)
		want(t, "bytes", len(b), 0)
		want(t, "told", e, api.ErrIO)
		b, e = f.Read("a", 0, 2)
		want(t, "the next one", string(b), "12")
		want(t, "the next one", e, api.OK)
	}
}

func TestStopAtEachOperation(t *testing.T) { // P1.5
	for _, x := range each() {
		f := ahead(t)
		before := f.Ops()
		f.Stop(0)
		want(t, "at once", f.Off(), true)
		ok(t, x.do(f))
		if x.op == api.OpRead {
			want(t, "reads go on", f.Ops(), x.ops)
			continue
		}
		want(t, "nothing is done", text(f), "a=1|2")
		want(t, "nothing is pending", f.Pending(), 1)
		want(t, "nothing is counted", f.Ops(), before)

		f.Stop(1)
		want(t, "not yet", f.Off(), false)
		ok(t, x.do(f))
		want(t, "done", text(f), x.done)
		want(t, "counted", f.Ops(), x.ops)
		want(t, "then", f.Off(), true)
	}
}

func TestStopCounts(t *testing.T) { // P1.5
	f := open(t, 9)
	put(t, f, "a", "")
	ok(t, f.Fail([]api.Fault{{Op: api.OpAppend, Nth: 1, Kind: api.FaultClean}, {Op: api.OpAppend, Nth: 2, Kind: api.FaultDone}}))
	f.Stop(3)
	want(t, "refused", f.Append("b", nil), api.ErrNone) // counts not
	_, e := f.Read("a", 0, 0)                           // counts not
	ok(t, e)
	want(t, "fails", f.Append("a", []byte("1")), api.ErrIO) // counts
	want(t, "fails, and is done", f.Append("a", []byte("2")), api.ErrIO)
	want(t, "one is left", f.Off(), false)
	ok(t, f.Append("a", []byte("3")))
	want(t, "none is left", f.Off(), true)
	ok(t, f.Append("a", []byte("4")), f.Sync("a"), f.SyncDir(), f.Create("b"), f.Remove("a"), f.Rename("a", "c"))
	want(t, "files", text(f), "a=|23")
	want(t, "Pending", f.Pending(), 1)
	want(t, "Ops", f.Ops(), api.Ops{Creates: 1, Appends: 4, Reads: 1, Failed: 2})
}

func TestRefusedIsRefusedBehindStop(t *testing.T) { // P1.5
	f := open(t, 2)
	put(t, f, "a", "1")
	f.Stop(0)
	want(t, "name", f.Create("A"), api.ErrName)
	want(t, "exist", f.Create("a"), api.ErrExist)
	want(t, "none", []api.Errno{f.Append("b", nil), f.Sync("b"), f.Remove("b"), f.Rename("b", "c")}, slices.Repeat([]api.Errno{api.ErrNone}, 4))
	want(t, "full", f.Append("a", []byte("23")), api.ErrFull)
	want(t, "long", f.Append("a", make([]byte, api.MaxFile)), api.ErrLong)
	ok(t, f.Create("b"))
	want(t, "it was not made", f.Sync("b"), api.ErrNone)
	b, e := f.Read("a", 0, 1)
	want(t, "reads go on", string(b), "1")
	ok(t, e)
	_, e = f.Read("a", 0, 2)
	want(t, "and are refused", e, api.ErrRange)
}

func TestFaultsBehindStop(t *testing.T) { // P1.5
	f := open(t, 9)
	put(t, f, "a", "1")
	ok(t, f.Fail([]api.Fault{{Op: api.OpSync, Nth: 1, Kind: api.FaultDone}, {Op: api.OpRead, Nth: 1, Kind: api.FaultClean}}))
	f.Stop(0)
	ok(t, f.Sync("a"), f.Sync("a")) // they do not count for the fault
	_, e := f.Read("a", 0, 1)
	want(t, "a read may fail", e, api.ErrIO)
	f.Stop(-1)
	want(t, "power again", f.Off(), false)
	want(t, "the first one that counts", f.Sync("a"), api.ErrIO)
	want(t, "Ops", f.Ops(), api.Ops{Creates: 1, Appends: 1, Syncs: 1, Reads: 1, Failed: 2})
}

func TestStopAgain(t *testing.T) { // P1.5
	f := open(t, 99)
	ok(t, f.Create("a"))
	f.Stop(1)
	f.Stop(3)
	ok(t, f.Append("a", []byte("1")), f.Append("a", []byte("2")))
	want(t, "the last Stop counts", f.Off(), false)
	for _, n := range []int{-1, math.MinInt, math.MaxInt} {
		f.Stop(0)
		f.Stop(n)
		want(t, "nothing is stopped", f.Off(), false)
		ok(t, f.Append("a", []byte("x")))
	}
	want(t, "files", text(f), "a=|12xxx")
}

func TestCrashRefuses(t *testing.T) { // P1.5
	f := open(t, 9)
	put(t, f, "a", "1")
	put(t, f, "b", "2")
	ok(t, f.Fail([]api.Fault{{Op: api.OpSync, Nth: 1, Kind: api.FaultDone}}))
	f.Stop(2)
	for _, c := range []api.Crash{{Dir: -1}, {Dir: 3}, {Dir: math.MaxInt}, {Dir: math.MinInt}, {Dir: 2, Keep: []int{-1}}, {Dir: 0, Keep: []int{0, 0, 0, math.MinInt}}, {Dir: 1, Keep: []int{1, 1, -1}}} {
		want(t, "Crash", f.Crash(c), api.ErrArg)
	}
	want(t, "files", text(f), "a=|1 b=|2")
	want(t, "Pending", f.Pending(), 2)
	want(t, "the faults are there", f.Sync("a"), api.ErrIO)
	ok(t, f.Sync("b"))
	want(t, "the power goes as was said", f.Off(), true)
}

func TestCrashEndsStopAndFaults(t *testing.T) { // P1.5
	for _, n := range []int{0, 1, 5} {
		f := open(t, 9)
		put(t, f, "a", "1")
		ok(t, f.SyncDir(), f.Fail([]api.Fault{{Op: api.OpAppend, Nth: 1, Kind: api.FaultClean}}))
		f.Stop(n)
		before := f.Ops()
		ok(t, f.Crash(api.Crash{}))
		want(t, "a crash is no operation", f.Ops(), before)
		for range 6 {
			want(t, "Off", f.Off(), false)
			ok(t, f.Append("a", []byte("x")))
		}
		want(t, "files", text(f), "a=|xxxxxx")
	}
}

func TestCrashKeepsBytes(t *testing.T) { // P1.5, P1.8
	for _, x := range []struct {
		keep []int
		want string
	}{
		{nil, "a=1| b=| c=45|"},
		{[]int{0, 0, 0}, "a=1| b=| c=45|"},
		{[]int{1}, "a=12| b=| c=45|"},
		{[]int{0, 1}, "a=1| b=x| c=45|"},
		{[]int{2, 2, 2}, "a=123| b=xy| c=45|"},
		{[]int{9, 3, 9}, "a=123| b=xyz| c=45|"},
		{[]int{math.MaxInt, math.MaxInt, math.MaxInt, math.MaxInt}, "a=123| b=xyz| c=45|"},
		{[]int{0, 0, 0, 7, 7}, "a=1| b=| c=45|"},
	} {
		f := open(t, 20)
		put(t, f, "c", "45")
		put(t, f, "b", "xyz")
		put(t, f, "a", "1")
		ok(t, f.Sync("a"), f.Append("a", []byte("23")), f.Sync("c"), f.SyncDir())
		ok(t, f.Crash(api.Crash{Keep: x.keep}))
		want(t, "files", text(f), x.want)
		ok(t, f.Crash(api.Crash{}))
		want(t, "all that is there lasts", text(f), x.want)
		ok(t, f.Append("b", []byte("!")))
		b, _ := f.Read("b", 0, len(strings.Split(strings.Split(x.want, "b=")[1], "|")[0])+1)
		want(t, "behind it", strings.HasSuffix(string(b), "!"), true)
	}
}

func TestCrashKeepsOperations(t *testing.T) { // P1.5, P1.9
	f := open(t, 20)
	put(t, f, "a", "A")
	put(t, f, "b", "B")
	ok(t, f.Sync("a"), f.Sync("b"), f.SyncDir())
	put(t, f, "c", "C") // pending from here on
	ok(t, f.Sync("c"), f.Rename("c", "a"), f.Remove("b"), f.Rename("a", "a"), f.Rename("a", "b"), f.Create("a"))
	for dir, should := range []string{"a=A| b=B|", "a=A| b=B| c=C|", "a=C| b=B|", "a=C|", "a=C|", "b=C|", "a=| b=C|"} {
		g := f.Fork()
		ok(t, g.Crash(api.Crash{Dir: dir}))
		want(t, "Dir "+strconv.Itoa(dir), text(g), should)
		want(t, "Pending", g.Pending(), 0)
		ok(t, g.Crash(api.Crash{}))
		want(t, "it lasts", text(g), should)
	}
}

func TestCrashCountsFilesThatItKeeps(t *testing.T) { // P1.5: Keep goes by the names of the directory behind the crash
	f := open(t, 20)
	put(t, f, "b", "b1")
	ok(t, f.SyncDir())
	put(t, f, "a", "a1")
	ok(t, f.Remove("b"))
	put(t, f, "c", "c1")
	for dir, should := range []string{"b=b|", "a=a| b=b1|", "a=a|", "a=a| c=c1|"} {
		g := f.Fork()
		ok(t, g.Crash(api.Crash{Dir: dir, Keep: []int{1, 2}}))
		want(t, "Dir "+strconv.Itoa(dir), text(g), should)
	}
}

func TestCrashBringsBackRemoved(t *testing.T) { // P1.5, P1.1: what comes back may be more than the disk has room for
	f := open(t, 4)
	put(t, f, "a", "123")
	ok(t, f.Sync("a"), f.SyncDir(), f.Create("b"), f.Remove("a"), f.Append("b", []byte("4567")), f.Sync("b"))
	ok(t, f.Crash(api.Crash{Dir: 1}))
	want(t, "files", text(f), "a=123| b=4567|")
	want(t, "Left", f.Left(), -3)
	want(t, "no room", f.Append("a", []byte("8")), api.ErrFull)
	want(t, "no room even for nothing", f.Append("a", nil), api.ErrFull)
	ok(t, f.Remove("b"))
	want(t, "Left", f.Left(), 1)
	ok(t, f.Append("a", []byte("8")))
}

func TestRenameOverLeavesOneOfBoth(t *testing.T) { // P1.9
	f := open(t, 20)
	put(t, f, "current", "old")
	ok(t, f.Sync("current"), f.SyncDir())
	put(t, f, "tmp", "new")
	ok(t, f.Sync("tmp"), f.Rename("tmp", "current"))
	for dir := range 3 {
		g := f.Fork()
		ok(t, g.Crash(api.Crash{Dir: dir}))
		b, e := g.Read("current", 0, 3)
		want(t, "current", string(b), []string{"old", "old", "new"}[dir])
		ok(t, e)
	}
}

func TestOps(t *testing.T) { // P1.6
	f := open(t, 20)
	ok(t, f.Create("a"), f.Create("b"), f.Append("a", []byte("1")), f.Sync("a"), f.Rename("a", "c"), f.Remove("b"), f.SyncDir(), f.SyncDir())
	f.Read("c", 0, 1)
	f.Size("c")
	f.List()
	f.Files()
	want(t, "Ops", f.Ops(), api.Ops{Creates: 2, Appends: 1, Syncs: 1, Renames: 1, Removes: 1, SyncDirs: 2, Reads: 1})
	ok(t, f.Fail([]api.Fault{{Op: api.OpSync, Nth: 1, Kind: 1}}))
	f.Sync("c")
	ok(t, f.Crash(api.Crash{}), f.Sync("c"))
	want(t, "Ops", f.Ops(), api.Ops{Creates: 2, Appends: 1, Syncs: 3, Renames: 1, Removes: 1, SyncDirs: 2, Reads: 1, Failed: 1})
}

func TestForkIsTheSame(t *testing.T) { // P1.6
	f := open(t, 9)
	put(t, f, "a", "12")
	ok(t, f.Sync("a"), f.SyncDir(), f.Append("a", []byte("3")), f.Rename("a", "b"))
	put(t, f, "c", "4")
	ok(t, f.Fail([]api.Fault{{Op: api.OpSync, Nth: 2, Kind: api.FaultClean}}), f.Sync("c"))
	f.Stop(2)
	g := f.Fork()
	for _, h := range []*vfs.FS{g, f} {
		want(t, "files", text(h), "b=12|3 c=4|")
		want(t, "Pending", h.Pending(), 2)
		want(t, "Left", h.Left(), 5)
		want(t, "Ops", h.Ops(), f.Ops())
		want(t, "the faults, counted on", h.Sync("c"), api.ErrIO)
		want(t, "not yet", h.Off(), false)
		ok(t, h.Append("b", []byte("5")))
		want(t, "the power", h.Off(), true)
		ok(t, h.Crash(api.Crash{Dir: 0, Keep: []int{1}}))
		want(t, "one file under two names", text(h), "a=123|")
	}
}

func TestForkIsApart(t *testing.T) { // P1.6
	f := open(t, 99)
	put(t, f, "a", "12345")
	ok(t, f.Sync("a"), f.SyncDir(), f.Create("b"), f.Append("a", []byte("6")))
	g := f.Fork()
	ok(t, g.Append("a", []byte("xyz")), g.Append("b", []byte("1")), g.Sync("a"), g.Remove("b"), g.Rename("a", "c"), g.SyncDir(), g.Fail([]api.Fault{{Op: 1, Nth: 1, Kind: 1}}))
	g.Stop(0)
	want(t, "the one", text(f), "a=12345|6 b=|")
	want(t, "Pending", f.Pending(), 1)
	want(t, "Off", f.Off(), false)
	want(t, "Ops", f.Ops(), api.Ops{Creates: 2, Appends: 2, Syncs: 1, SyncDirs: 1})
	ok(t, f.Append("a", []byte("7")), f.Create("d"), f.Remove("a"))
	want(t, "the other one", text(g), "c=123456xyz|")
	ok(t, f.Crash(api.Crash{Dir: 0, Keep: []int{1}}))
	want(t, "a crash of the one", text(f), "a=123456|")
	want(t, "the other one", text(g), "c=123456xyz|")
}

func TestNil(t *testing.T) { // P1.6
	var f *vfs.FS
	told := []api.Errno{f.Fail(nil), f.Fail(many(99)), f.Create("a"), f.Create(""), f.Append("a", nil), f.Sync("a"), f.Rename("a", "b"), f.Remove("a"), f.SyncDir(), f.Crash(api.Crash{}), f.Crash(api.Crash{Dir: -1})}
	b, e := f.Read("a", -1, 0)
	told = append(told, e)
	n, e := f.Size("a")
	told = append(told, e)
	want(t, "told", told, slices.Repeat([]api.Errno{api.ErrClosed}, len(told)))
	f.Stop(0)
	want(t, "numbers", []int{len(b), n, len(f.List()), f.Pending(), len(f.Files()), f.Left()}, make([]int, 6))
	want(t, "Ops", f.Ops(), api.Ops{})
	want(t, "Off", f.Off(), false)
	want(t, "Fork", f.Fork(), nil)
}

func TestObjectThatNoCallMade(t *testing.T) { // R1
	f := &vfs.FS{}
	f.Stop(1)
	want(t, "told", []api.Errno{f.Create("a"), f.SyncDir(), f.Crash(api.Crash{})}, slices.Repeat([]api.Errno{api.ErrClosed}, 3))
	want(t, "Off", f.Off(), false)
}

func TestWhatIsHandedInStays(t *testing.T) { // R3
	f := open(t, 99)
	ok(t, f.Create("a"))
	room := []byte("12345678")
	ok(t, f.Append("a", room[:3]), f.Append("a", room[:2]))
	want(t, "the bytes, and the room behind them", string(room), "12345678")
	copy(room, "xxxxxxxx")
	want(t, "they are not kept", text(f), "a=|12312")

	faults := []api.Fault{{Op: api.OpSync, Nth: 1, Kind: api.FaultClean}, {Op: 9}}
	ok(t, f.Fail(faults[:1]))
	want(t, "the faults", faults[0], api.Fault{Op: api.OpSync, Nth: 1, Kind: api.FaultClean})
	want(t, "the room behind them", faults[1], api.Fault{Op: 9})
	faults[0].Op = api.OpAppend
	want(t, "they are not kept", f.Sync("a"), api.ErrIO)

	keep := []int{4, 7}
	ok(t, f.SyncDir(), f.Crash(api.Crash{Keep: keep[:1]}))
	want(t, "Keep", keep, []int{4, 7})
	want(t, "files", text(f), "a=1231|")
}

func TestAnswersAreNewMemory(t *testing.T) { // R3
	f := open(t, 99)
	put(t, f, "a", "12345")
	put(t, f, "b", "678")
	spoil := func(b []byte) {
		b = b[:cap(b)]
		copy(b, bytes.Repeat([]byte("x"), len(b)))
	}
	for offset := range 5 {
		b, _ := f.Read("a", offset, 5-offset)
		spoil(b)
		b, _ = f.Read("a", 0, offset)
		spoil(b)
	}
	files, other := f.Files(), f.Files()
	for _, x := range files {
		spoil(x.Bytes)
	}
	files[0].Name = "z"
	want(t, "another answer", other[0].Name+string(other[0].Bytes)+string(other[1].Bytes), "a12345678")
	f.List()[0] = "z"
	want(t, "files", text(f), "a=|12345 b=|678")
	g := f.Fork()
	ok(t, f.Append("a", []byte("6")), g.Append("a", []byte("7")))
	want(t, "the one", text(f), "a=|123456 b=|678")
	want(t, "the other one", text(g), "a=|123457 b=|678")
}

func TestExamples(t *testing.T) { // the chapter's examples
	f := open(t, 100)
	put(t, f, "a", "xyz")
	ok(t, f.Sync("a"))
	g := f.Fork()
	ok(t, g.Crash(api.Crash{}))
	want(t, "no file", text(g), "")
	ok(t, f.SyncDir())
	g = f.Fork()
	ok(t, g.Crash(api.Crash{}))
	want(t, "with SyncDir ahead", text(g), "a=xyz|")
	ok(t, g.Append("a", []byte("uv")), g.Crash(api.Crash{Keep: []int{1}}))
	want(t, "with Keep 1", text(g), "a=xyzu|")

	put(t, f, "b", "2")
	ok(t, f.Sync("b"), f.Rename("b", "a"))
	for dir, should := range []string{"a=xyz|", "a=xyz| b=2|", "a=2|"} {
		g := f.Fork()
		ok(t, g.Crash(api.Crash{Dir: dir}))
		want(t, "Dir", text(g), should)
	}
}
