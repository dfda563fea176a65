package lsm_test

import (
	"fmt"
	"maps"
	"math"
	"slices"
	"strings"
	"testing"

	"atrium/api"
	"atrium/lsm"
)

// told is batches, one behind the other: what an engine should have, told once more.
type told []map[string]string

// with is that with one batch more.
func (m told) with(l []api.Write) told {
	next := map[string]string{}
	if len(m) > 0 {
		for k, v := range m[len(m)-1] {
			next[k] = v
		}
	}
	for _, w := range l {
		delete(next, w.Key)
		if !w.Gone {
			next[w.Key] = w.Value
		}
	}
	return append(slices.Clone(m), next)
}

// at is what there is at a sequence.
func (m told) at(seq uint64) map[string]string {
	if seq == 0 || len(m) == 0 {
		return nil
	}
	return m[min(seq, uint64(len(m)))-1]
}

// text is a range of what there is at a sequence.
func (m told) text(from, to string, seq uint64) string {
	var l []string
	for _, k := range slices.Sorted(maps.Keys(m.at(seq))) {
		if k >= from && (to == "" || k < to) {
			l = append(l, k+"="+m.at(seq)[k])
		}
	}
	return strings.Join(l, " ")
}

// layered is an engine with cells in memory, frozen, on level 0 (two tables), on levels 1 and 2; all can be read at every sequence.
func layered(t *testing.T) (*lsm.DB, told) {
	t.Helper()
	o := small()
	o.Zero, o.Base = 3, 1
	d := fresh(t, o)
	want(t, "Snap", d.Snap(), 0)
	var m told
	write := func(words ...string) {
		t.Helper()
		mustWrite(t, d, words...)
		m = m.with(batch(words...))
	}
	down := func() {
		t.Helper()
		mustFreeze(t, d)
		mustFlush(t, d)
	}
	write("a=1", "b=1", "c=1", "d=1", "e=1", "f=1", "g=1") // for level 2
	down()
	write("b-", "g=2")
	down()
	write("h=3")
	down()
	mustCompact(t, d) // into level 1
	mustCompact(t, d) // into level 2
	write("b=4", "c=4")
	down()
	write("d-", "c-")
	down()
	write("a=6", "z=6")
	down()
	mustCompact(t, d) // into level 1
	write("e-", "a=7")
	down()
	write("a=8", "e=8", "d=8")
	down()
	write("a=9", "f-")
	mustFreeze(t, d)
	write("a=10", "b-", "y=10")
	levels := d.State().Version.Levels
	want(t, "levels", len(levels), 3)
	want(t, "level 0", len(levels[0]), 2)
	want(t, "level 1", len(levels[1]), 1)
	want(t, "level 2", len(levels[2]), 1)
	return d, m
}

func TestGet(t *testing.T) { // P13.4
	d, m := layered(t)
	last := uint64(len(m))
	for _, key := range strings.Split("a b c d e f g h y z A aa zz", " ") {
		for seq := range last + 3 {
			v, is := d.Get(key, seq)
			should, there := m.at(seq)[key]
			want(t, fmt.Sprint(key, " at ", seq), v, should)
			want(t, fmt.Sprint("is ", key, " at ", seq), is, there)
		}
		v, _ := d.Get(key, math.MaxUint64)
		want(t, "above all", v, m.at(last)[key])
	}
	v, is := d.Get("", last)
	want(t, "no key", v, "")
	want(t, "no key is there", is, false)
	_, is = d.Get(strings.Repeat("k", 1000), last)
	want(t, "a long key", is, false)
}

func TestNewest(t *testing.T) { // P13.4
	d, _ := layered(t)
	for key, should := range map[string]uint64{"a": 10, "b": 10, "c": 5, "d": 8, "e": 8, "f": 9, "g": 2, "h": 3, "y": 10, "z": 6, "": 0, "aa": 0, "zz": 0} {
		want(t, "Newest of "+key, d.Newest(key), should)
	}
	d = fresh(t, small()) // one that is gone, and gone at the bottom
	layDown(t, d, "a=1", "b=1")
	layDown(t, d, "a-")
	want(t, "gone", d.Newest("a"), 2)
	mustCompact(t, d)
	want(t, "not there any more", d.Newest("a"), 0)
	want(t, "the other one", d.Newest("b"), 1)
}

func TestScan(t *testing.T) { // P13.4
	d, m := layered(t)
	ends := []string{"", "A", "a", "a\x00", "b", "c", "e", "f", "fz", "y", "z", "zz"}
	for _, from := range ends {
		for _, to := range ends {
			for seq := range uint64(len(m)) + 3 {
				want(t, fmt.Sprintf("from %q to %q at %d", from, to, seq), scanned(d, from, to, seq), m.text(from, to, seq))
			}
		}
	}
	want(t, "above all", scanned(d, "", "", math.MaxUint64), m.text("", "", 99))
	for _, at := range []string{"b", "f", "zz"} { // ranges that touch
		both := strings.TrimSpace(scanned(d, "", at, 10) + " " + scanned(d, at, "", 10))
		want(t, "two ranges", both, text(d, 10))
	}
}

func TestScanAsItWas(t *testing.T) { // P13.4, R5: as it was when Scan was called
	d, m := layered(t)
	should := m.text("", "", 10)
	l := d.Scan("", "", math.MaxUint64)
	old := d.Scan("", "", 1)
	first := ""
	for k, v := range l { // it may be stopped
		first = k + "=" + v
		break
	}
	want(t, "the first one", first, "a=10")
	pairs := func(what, should string) {
		t.Helper()
		var told []string
		for k, v := range l {
			told = append(told, k+"="+v)
		}
		want(t, what, strings.Join(told, " "), should)
	}
	pairs("at first", should)
	mustWrite(t, d, "a=x", "bb=x", "h-")
	pairs("behind a Write", should)
	mustFlush(t, d)
	pairs("behind Flush", should)
	want(t, "Release", d.Release(0), api.OK)
	mustFreeze(t, d)
	rest(t, d)
	pairs("behind all", should)
	var told []string
	for k, v := range old {
		told = append(told, k+"="+v)
		mustWrite(t, d, "a=y") // while it is ranged over
	}
	want(t, "at a sequence that can't be read any more", strings.Join(told, " "), m.text("", "", 1))
	want(t, "and now", text(d, math.MaxUint64) == should, false)
	d2 := mustOpen(t, d.FS(), small())
	pairs("behind another opening", should)
	want(t, "what that has", now(d2), now(d))
}

func TestReadCrafted(t *testing.T) { // P13.4: the newest cell, on whatever level it lies
	f := newDisk(t, 1<<20)
	older, newer := tableOf(t, 3, "a=3", "b=3"), tableOf(t, 5, "a=5", "c-")
	lay(t, f, "table-000002", older)
	lay(t, f, "table-000003", newer)
	point(t, f, 4, api.Edit{Log: 5, Next: 6, Seq: 9, Added: []api.Placed{{Level: 0, Sst: sstOf(t, 2, older)}, {Level: 1, Sst: sstOf(t, 3, newer)}}})
	d := mustOpen(t, f, small())
	want(t, "Scan", now(d), "a=5 b=3")
	v, _ := d.Get("a", 9)
	want(t, "Get", v, "5")
	v, _ = d.Get("a", 4)
	want(t, "Get below", v, "3")
	want(t, "Newest", d.Newest("a"), 5)
	want(t, "Newest of what is gone", d.Newest("c"), 5)
}
