package txn_test

import (
	"fmt"
	"slices"
	"strings"
	"testing"

	"atrium/api"
	"atrium/lsm"
	"atrium/txn"
	"atrium/vfs"
)

// want fails the test, if what was told is not what should be.
func want[T comparable](t *testing.T, what string, got, should T) {
	t.Helper()
	if got != should {
		t.Errorf("%s: %.300s, not %.300s", what, fmt.Sprint(got), fmt.Sprint(should))
	}
}

// wantList is want of lists.
func wantList[T comparable](t *testing.T, what string, got, should []T) {
	t.Helper()
	if !slices.Equal(got, should) {
		t.Errorf("%s: %.300s, not %.300s", what, fmt.Sprint(got), fmt.Sprint(should))
	}
}

// small is options with which little is laid down and merged.
func small() api.Options {
	return api.Options{Shape: api.Shape{Block: 64, Restart: 2, Bits: 8}, Mem: 1 << 18, Zero: 2, Base: 600, Fan: 2}
}

// fresh is an engine on a disk with room.
func fresh(t *testing.T) *lsm.DB {
	t.Helper()
	f, _ := vfs.New(api.MaxDisk)
	d, e := lsm.Open(f, small())
	if e != api.OK {
		t.Fatal("Open", e)
	}
	return d
}

// batch is writes of words: a=1 puts, a- lets a be gone.
func batch(words ...string) []api.Write {
	var l []api.Write
	for _, w := range words {
		if key, is := strings.CutSuffix(w, "-"); is {
			l = append(l, api.Write{Key: key, Gone: true})
			continue
		}
		key, value, _ := strings.Cut(w, "=")
		l = append(l, api.Write{Key: key, Value: value})
	}
	return l
}

// write is what others commit: its sequence.
func write(t *testing.T, d *lsm.DB, words ...string) uint64 {
	t.Helper()
	n, e := d.Write(batch(words...))
	if e != api.OK {
		t.Fatal("Write", e)
	}
	return n
}

// begin is a transaction that writes some words.
func begin(t *testing.T, d *lsm.DB, words ...string) *txn.Txn {
	t.Helper()
	x, e := txn.Begin(d)
	if e != api.OK || x == nil {
		t.Fatal("Begin", x, e)
	}
	for _, w := range batch(words...) {
		if w.Gone {
			want(t, "Delete", x.Delete(w.Key), api.OK)
		} else {
			want(t, "Put", x.Put(w.Key, w.Value), api.OK)
		}
	}
	return x
}

// wantCommit is what Commit should tell.
func wantCommit(t *testing.T, what string, x *txn.Txn, seq uint64, should api.Errno) {
	t.Helper()
	n, e := x.Commit()
	want(t, what, e, should)
	want(t, what+": its sequence", n, seq)
	want(t, what+": Ended", x.Ended(), true)
}

// seen is what a transaction sees: a=1 b=2.
func seen(x *txn.Txn, from, to string) string {
	var l []string
	for k, v := range x.Scan(from, to) {
		l = append(l, k+"="+v)
	}
	return strings.Join(l, " ")
}

// there is what an engine has at its last sequence.
func there(d *lsm.DB) string {
	var l []string
	for k, v := range d.Scan("", "", d.Info().Seq) {
		l = append(l, k+"="+v)
	}
	return strings.Join(l, " ")
}

// down lays down and merges all that there is.
func down(t *testing.T, d *lsm.DB) {
	t.Helper()
	for range 100 {
		d.Freeze()
		laid, e := d.Flush()
		want(t, "Flush", e, api.OK)
		merged, e := d.Compact()
		want(t, "Compact", e, api.OK)
		if !laid && !merged {
			return
		}
	}
	t.Fatal("it does not come to rest")
}

// standing is all that can be told of an engine.
func standing(d *lsm.DB) string {
	var files []string
	for _, x := range d.FS().Files() {
		files = append(files, fmt.Sprintf("%s %d %x", x.Name, x.Synced, x.Bytes))
	}
	return fmt.Sprint(d.Info(), d.State(), there(d), files)
}
