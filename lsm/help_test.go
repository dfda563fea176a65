package lsm_test

import (
	"bytes"
	"fmt"
	"slices"
	"strconv"
	"strings"
	"testing"

	"atrium/api"
	"atrium/lsm"
	"atrium/manifest"
	"atrium/table"
	"atrium/vfs"
	"atrium/wal"
)

// differs fails the test; of what is long the begin is told.
func differs(t *testing.T, what string, got, should any) {
	t.Helper()
	t.Errorf("%s: %.300s, not %.300s", what, fmt.Sprint(got), fmt.Sprint(should))
}

// want fails the test, if what was told is not what should be.
func want[T comparable](t *testing.T, what string, got, should T) {
	t.Helper()
	if got != should {
		differs(t, what, got, should)
	}
}

// wantList is want of lists.
func wantList[T comparable](t *testing.T, what string, got, should []T) {
	t.Helper()
	if !slices.Equal(got, should) {
		differs(t, what, got, should)
	}
}

// wantState is want of states.
func wantState(t *testing.T, what string, got, should api.State) {
	t.Helper()
	same := slices.EqualFunc(got.Version.Levels, should.Version.Levels, slices.Equal[[]api.Sst])
	if !same || got.Log != should.Log || got.Next != should.Next || got.Seq != should.Seq {
		differs(t, what, got, should)
	}
}

// shape and small are options with which little is laid down and merged.
func shape() api.Shape { return api.Shape{Block: 64, Restart: 2, Bits: 8} }

func small() api.Options {
	return api.Options{Shape: shape(), Mem: 1 << 18, Zero: 2, Base: 600, Fan: 2}
}

// put, gone and the others make writes.
func put(key, value string) api.Write { return api.Write{Key: key, Value: value} }

func gone(key string) api.Write { return api.Write{Key: key, Gone: true} }

// batch is writes of words: a=1 puts, a- lets a be gone.
func batch(words ...string) []api.Write {
	var l []api.Write
	for _, w := range words {
		if key, is := strings.CutSuffix(w, "-"); is {
			l = append(l, gone(key))
			continue
		}
		key, value, _ := strings.Cut(w, "=")
		l = append(l, put(key, value))
	}
	return l
}

// many is a batch of n keys with values of so many bytes.
func many(n, size int) []api.Write {
	var l []api.Write
	for i := range n {
		l = append(l, put("k"+strconv.Itoa(10000+i), strings.Repeat("v", size)))
	}
	return l
}

func newDisk(t *testing.T, capacity int) *vfs.FS {
	t.Helper()
	f, e := vfs.New(capacity)
	want(t, "vfs.New", e, api.OK)
	return f
}

func mustOpen(t *testing.T, f *vfs.FS, o api.Options) *lsm.DB {
	t.Helper()
	d, e := lsm.Open(f, o)
	if e != api.OK || d == nil {
		t.Fatal("Open", d, e)
	}
	return d
}

// fresh is an engine on a disk with some room, roomy one on the largest disk.
func fresh(t *testing.T, o api.Options) *lsm.DB {
	t.Helper()
	return mustOpen(t, newDisk(t, 1<<16), o)
}

func roomy(t *testing.T, o api.Options) *lsm.DB {
	t.Helper()
	return mustOpen(t, newDisk(t, api.MaxDisk), o)
}

// mustWrite writes a batch of words: its sequence.
func mustWrite(t *testing.T, d *lsm.DB, words ...string) uint64 {
	t.Helper()
	n, e := d.Write(batch(words...))
	if e != api.OK {
		t.Fatal("Write", words, e)
	}
	return n
}

func mustFreeze(t *testing.T, d *lsm.DB) {
	t.Helper()
	if e := d.Freeze(); e != api.OK {
		t.Fatal("Freeze", e)
	}
}

func mustFlush(t *testing.T, d *lsm.DB) {
	t.Helper()
	if is, e := d.Flush(); !is || e != api.OK {
		t.Fatal("Flush", is, e)
	}
}

func mustCompact(t *testing.T, d *lsm.DB) {
	t.Helper()
	if is, e := d.Compact(); !is || e != api.OK {
		t.Fatal("Compact", is, e)
	}
}

// layDown writes a batch of words, and lays it down.
func layDown(t *testing.T, d *lsm.DB, words ...string) {
	t.Helper()
	mustWrite(t, d, words...)
	mustFreeze(t, d)
	mustFlush(t, d)
}

// rest does all that is to be done.
func rest(t *testing.T, d *lsm.DB) {
	t.Helper()
	for range 10000 {
		laid, e := d.Flush()
		want(t, "Flush", e, api.OK)
		merged, e := d.Compact()
		want(t, "Compact", e, api.OK)
		if !laid && !merged {
			return
		}
	}
	t.Fatal("it does not come to rest")
}

// text is what Scan tells: a=1 b=2.
func text(d *lsm.DB, seq uint64) string {
	return scanned(d, "", "", seq)
}

func scanned(d *lsm.DB, from, to string, seq uint64) string {
	var l []string
	for k, v := range d.Scan(from, to, seq) {
		l = append(l, k+"="+v)
	}
	return strings.Join(l, " ")
}

// now is what there is at the last sequence.
func now(d *lsm.DB) string { return text(d, d.Info().Seq) }

// picture is all that can be told of files: their bytes, and how many of them last.
func picture(f *vfs.FS) string { return pictureBut(f, "") }

// pictureBut is that without a file.
func pictureBut(f *vfs.FS, name string) string {
	var l []string
	for _, x := range f.Files() {
		if x.Name != name {
			l = append(l, fmt.Sprintf("%s %d %x", x.Name, x.Synced, x.Bytes))
		}
	}
	return strings.Join(l, "\n")
}

// standing is all that can be told of an engine and its files, but how many operations there were.
func standing(d *lsm.DB) string {
	return fmt.Sprint(d.Info(), d.State(), text(d, api.MaxSeq), d.FS().Pending(), picture(d.FS()))
}

// lay makes a file that lasts.
func lay(t *testing.T, f *vfs.FS, name string, b []byte) {
	t.Helper()
	want(t, "Create "+name, f.Create(name), api.OK)
	want(t, "Append "+name, f.Append(name, b), api.OK)
	want(t, "Sync "+name, f.Sync(name), api.OK)
	want(t, "SyncDir", f.SyncDir(), api.OK)
}

// replace lets a file have other bytes.
func replace(t *testing.T, f *vfs.FS, name string, b []byte) {
	t.Helper()
	want(t, "Remove "+name, f.Remove(name), api.OK)
	lay(t, f, name, b)
}

// bytesOf is a file's bytes.
func bytesOf(t *testing.T, f *vfs.FS, name string) []byte {
	t.Helper()
	n, e := f.Size(name)
	want(t, "Size of "+name, e, api.OK)
	b, e := f.Read(name, 0, n)
	want(t, "Read of "+name, e, api.OK)
	return b
}

// logOf is the bytes of a log with records.
func logOf(t *testing.T, recs ...string) []byte {
	t.Helper()
	w, _ := wal.NewWriter(0)
	var all []byte
	for _, rec := range recs {
		b, e := w.Lay(rec)
		want(t, "Lay", e, api.OK)
		all = append(all, b...)
	}
	return all
}

// rec is the record of a batch of words.
func rec(t *testing.T, seq uint64, words ...string) string {
	t.Helper()
	s, e := lsm.Record(seq, batch(words...))
	want(t, "Record", e, api.OK)
	return s
}

// tableOf is the bytes of a table of cells of words with one sequence, by rising keys.
func tableOf(t *testing.T, seq uint64, words ...string) []byte {
	t.Helper()
	var l []api.Cell
	for _, w := range batch(words...) {
		l = append(l, api.Cell{Key: w.Key, Seq: seq, Value: w.Value, Gone: w.Gone})
	}
	b, e := table.Build(l, shape())
	want(t, "table.Build", e, api.OK)
	return b
}

// sstOf is what a state says of a table's bytes.
func sstOf(t *testing.T, number int, b []byte) api.Sst {
	t.Helper()
	x, e := table.Open(b)
	want(t, "table.Open", e, api.OK)
	return api.Sst{Number: number, Size: len(b), Count: x.Count(), First: x.First(), Last: x.Last()}
}

// tableName is a table's name, told once more.
func tableName(number int) string { return fmt.Sprintf("table-%06d", number) }

// edits is a manifest's bytes.
func edits(t *testing.T, l ...api.Edit) []byte {
	t.Helper()
	var recs []string
	for _, e := range l {
		s, no := manifest.Encode(e)
		want(t, "Encode", no, api.OK)
		recs = append(recs, s)
	}
	return logOf(t, recs...)
}

// point makes the manifest of that number, with these edits, the current one.
func point(t *testing.T, f *vfs.FS, number int, l ...api.Edit) {
	t.Helper()
	lay(t, f, manifest.Name(number), edits(t, l...))
	lay(t, f, "current", []byte(manifest.Current(number)))
}

// cellsOf is all cells that the tables of a state have, in the tables' order; each file must be as the state says.
func cellsOf(t *testing.T, d *lsm.DB) []api.Cell {
	t.Helper()
	var l []api.Cell
	for _, level := range d.State().Version.Levels {
		for _, x := range level {
			b := bytesOf(t, d.FS(), tableName(x.Number))
			want(t, "what the state says", sstOf(t, x.Number, b), x)
			open, _ := table.Open(b)
			l = append(l, slices.Collect(open.Scan("", ""))...)
		}
	}
	return l
}

// cellText is cells as words: a5=x b3-.
func cellText(l []api.Cell) string {
	var words []string
	for _, c := range l {
		w := c.Key + strconv.FormatUint(c.Seq, 10)
		if c.Gone {
			w += "-"
		} else {
			w += "=" + c.Value
		}
		words = append(words, w)
	}
	return strings.Join(words, " ")
}

// wantFiles is that the directory has just what the engine needs, and that the manifest says its state.
func wantFiles(t *testing.T, d *lsm.DB) {
	t.Helper()
	s := d.State()
	var names []string
	for _, n := range manifest.Files(s) {
		names = append(names, tableName(n))
	}
	logs := 0
	for _, name := range d.FS().List() {
		if n, is := wal.Number(name); is && n >= s.Log {
			names = append(names, name)
			logs++
		}
	}
	frozen := 0
	if d.Info().Frozen > 0 {
		frozen = 1
	}
	want(t, "logs", logs, 1+frozen)
	n, is := manifest.Pointed(string(bytesOf(t, d.FS(), "current")))
	want(t, "Pointed", is, true)
	names = append(names, "current", manifest.Name(n))
	slices.Sort(names)
	wantList(t, "files", d.FS().List(), names)
	said, end, e := manifest.Load(bytesOf(t, d.FS(), manifest.Name(n)))
	want(t, "Load", e, api.OK)
	want(t, "its end", end, len(bytesOf(t, d.FS(), manifest.Name(n))))
	wantState(t, "the state", said, s)
	want(t, "Right", d.Right(), api.OK)
}

// fill leaves so many bytes of a disk, by files that are none of the engine's: they can be taken away again.
func fill(t *testing.T, f *vfs.FS, left int) {
	t.Helper()
	for i := 0; f.Left() > left; i++ {
		lay(t, f, "filler-"+strconv.Itoa(i), bytes.Repeat([]byte("."), min(f.Left()-left, api.MaxFile)))
	}
}

// crowd leaves so many of a directory's files.
func crowd(t *testing.T, f *vfs.FS, left int) {
	t.Helper()
	for i := 0; len(f.List()) < api.MaxFiles-left; i++ {
		want(t, "Create", f.Create("filler-"+strconv.Itoa(i)), api.OK)
	}
	want(t, "SyncDir", f.SyncDir(), api.OK)
}

// unfill takes the fillers away.
func unfill(t *testing.T, f *vfs.FS) {
	t.Helper()
	for _, name := range f.List() {
		if strings.HasPrefix(name, "filler-") {
			want(t, "Remove", f.Remove(name), api.OK)
		}
	}
	want(t, "SyncDir", f.SyncDir(), api.OK)
}
