package lsm_test

import (
	"fmt"
	"slices"
	"strconv"
	"strings"
	"testing"

	"atrium/api"
	"atrium/lsm"
	"atrium/wal"
)

func TestExample(t *testing.T) { // the chapter's
	f := newDisk(t, 1<<20)
	d := mustOpen(t, f, small())
	want(t, "Write", mustWrite(t, d, "a=1"), 1)
	want(t, "Write", mustWrite(t, d, "a=2", "b=3"), 2)
	for seq, should := range []string{"", "1", "2"} {
		v, is := d.Get("a", uint64(seq))
		want(t, "Get", v, should)
		want(t, "is there", is, seq > 0)
	}
	want(t, "Crash", f.Crash(api.Crash{}), api.OK)
	d = mustOpen(t, f, small())
	want(t, "behind a crash", now(d), "a=2 b=3")
	want(t, "Seq", d.Info().Seq, 2)
}

// logRecords is the records of an engine's logs, by the names in order.
func logRecords(t *testing.T, d *lsm.DB) []string {
	t.Helper()
	var all []string
	for _, name := range d.FS().List() {
		if _, is := wal.Number(name); is {
			recs, _, why := wal.Scan(bytesOf(t, d.FS(), name))
			want(t, "how it ends", why, api.EndWhole)
			all = append(all, recs...)
		}
	}
	return all
}

func TestWrite(t *testing.T) { // P13.3
	d := roomy(t, small())
	batches := [][]api.Write{batch("b=1", "a=1", "b=2"), batch("a-"), batch("x="), batch("x-", "x=1", "x-"), many(1024, 2), many(1, 1024), slices.Repeat(batch("z=1"), 1024)}
	var recs []string
	for i, l := range batches {
		was, ops := slices.Clone(l), d.FS().Ops()
		n, e := d.Write(l)
		want(t, "Write", e, api.OK)
		want(t, "its sequence", n, uint64(i+1))
		want(t, "syncs", d.FS().Ops().Syncs-ops.Syncs, 1)
		want(t, "directories", d.FS().Ops().SyncDirs-ops.SyncDirs, 0)
		wantList(t, "what was handed in", l, was)
		s, _ := lsm.Record(n, l)
		recs = append(recs, s)
		wantList(t, "the log", logRecords(t, d), recs)
		for _, x := range d.FS().Files() {
			want(t, "it lasts: "+x.Name, x.Synced, len(x.Bytes))
		}
	}
	want(t, "of one key the last one", text(d, 1), "a=1 b=2")
	want(t, "gone", text(d, 2), "b=2")
	want(t, "an empty value", text(d, 3), "b=2 x=")
	want(t, "gone at last", text(d, 4), "b=2")
	size := 2*(1+1+16) + (1 + 16) + (1 + 16) + (1 + 16) + 1024*(6+2+16) + (6 + 1024 + 16) + (1 + 1 + 16)
	want(t, "Mem", d.Info().Mem, size)
	want(t, "Frozen", d.Info().Frozen, 0)
	want(t, "Seq", d.Info().Seq, 7)
	wantState(t, "the state is as it was", d.State(), api.State{Log: 1, Next: 3})
}

func TestWriteManyCells(t *testing.T) { // P13.3: as many as may come to memory are there, whatever their heights
	d := roomy(t, small())
	mustWrite(t, d, "a=1")
	mustFreeze(t, d)
	for i := range 20 {
		l := many(1024, 1)
		for j := range l {
			l[j].Key += string(rune('a' + i))
		}
		_, e := d.Write(l)
		want(t, "Write", e, api.OK)
	}
	n := 0
	for range d.Scan("", "", api.MaxSeq) {
		n++
	}
	want(t, "keys", n, 1+20*1024)
	want(t, "Mem", d.Info().Mem, 20*1024*(7+1+16))
}

func TestWriteRefuses(t *testing.T) { // P13.3: ErrCell
	d := fresh(t, api.Options{Shape: shape(), Mem: 1, Zero: 2, Base: 600, Fan: 2}) // the next Write would freeze
	mustWrite(t, d, "a=1")
	was := standing(d)
	for what, l := range refusedBatches() {
		n, e := d.Write(l)
		want(t, what, e, api.ErrCell)
		want(t, what+": its sequence", n, 0)
		for _, all := range [][][]api.Write{{l}, {batch("b=1"), l}, {l, batch("b=1")}, {batch("b=1"), l, batch("c=1")}} {
			told, e := d.WriteAll(all)
			want(t, what, e, api.ErrCell)
			want(t, what+": their sequences", len(told), 0)
		}
	}
	want(t, "nothing has changed", standing(d), was)
	want(t, "the next one", mustWrite(t, d, "b=1"), 2)
}

func TestWriteAll(t *testing.T) { // P13.3
	d := fresh(t, small())
	was, ops := standing(d), d.FS().Ops()
	told, e := d.WriteAll(nil)
	want(t, "no batch", e, api.OK)
	want(t, "no batch: sequences", len(told), 0)
	want(t, "no batch: nothing is done", standing(d), was)
	want(t, "no batch: no operation", d.FS().Ops(), ops)
	told, e = d.WriteAll([][]api.Write{batch("a=1")})
	want(t, "one", e, api.OK)
	wantList(t, "one: its sequence", told, []uint64{1})
	ops = d.FS().Ops()
	l := [][]api.Write{batch("a=2", "b=2"), batch("a-"), batch("c=4", "a=4"), many(40, 100)}
	told, e = d.WriteAll(l)
	want(t, "several", e, api.OK)
	wantList(t, "several: their sequences", told, []uint64{2, 3, 4, 5})
	want(t, "one sync for all", d.FS().Ops().Syncs-ops.Syncs, 1)
	for seq, should := range []string{"", "a=1", "a=2 b=2", "b=2", "a=4 b=2 c=4"} {
		want(t, "at "+strconv.Itoa(seq), text(d, uint64(seq)), should)
	}
	var recs []string
	for i, x := range append([][]api.Write{batch("a=1")}, l...) {
		s, _ := lsm.Record(uint64(i+1), x)
		recs = append(recs, s)
	}
	wantList(t, "the log", logRecords(t, d), recs)
	told[0] = 99 // an answer is new memory
	want(t, "Seq", d.Info().Seq, 5)
}

func TestWriteRoom(t *testing.T) { // P13.3: just room enough, and one byte less
	for _, l := range [][][]api.Write{{batch("b=2")}, {many(30, 90)}, {batch("b=2"), many(9, 200), batch("c-")}} {
		d := fresh(t, small())
		mustWrite(t, d, "a=1")
		var recs []string
		for i, x := range append([][]api.Write{batch("a=1")}, l...) {
			s, _ := lsm.Record(uint64(i+1), x)
			recs = append(recs, s)
		}
		need := len(logOf(t, recs...)) - len(logOf(t, recs[0]))
		fill(t, d.FS(), need-1)
		was, ops := standing(d), d.FS().Ops()
		told, e := d.WriteAll(l)
		want(t, "no room", e, api.ErrFull)
		want(t, "no room: sequences", len(told), 0)
		want(t, "no room: nothing has changed", standing(d), was)
		want(t, "no room: no operation", d.FS().Ops(), ops)
		unfill(t, d.FS())
		fill(t, d.FS(), need)
		told, e = d.WriteAll(l)
		want(t, "just room enough", e, api.OK)
		want(t, "their sequences", len(told), len(l))
		want(t, "the disk is full", d.FS().Left(), 0)
		n, e := d.Write(batch("z-"))
		want(t, "a full disk", e, api.ErrFull)
		want(t, "its sequence", n, 0)
		want(t, "what was there is there", d.Info().Seq, uint64(1+len(l)))
	}
}

func TestWriteLongRecord(t *testing.T) { // P13.3: longer than a log's record may be
	d := roomy(t, small())
	was := standing(d)
	_, e := d.Write(many(1024, 1024))
	want(t, "a long record", e, api.ErrFull)
	want(t, "nothing has changed", standing(d), was)
	l := many(253, 1024) // a record of just MaxRecord bytes, and one more
	s, _ := lsm.Record(1, l)
	more := put("a", strings.Repeat("v", api.MaxRecord-len(s)-5))
	s, _ = lsm.Record(1, append(l, more))
	want(t, "the longest record", len(s), api.MaxRecord)
	longer := more
	longer.Value += "v"
	_, e = d.Write(append(slices.Clone(l), longer))
	want(t, "one byte more", e, api.ErrFull)
	_, e = d.Write(append(slices.Clone(l), more))
	want(t, "the longest", e, api.OK)
}

func TestWriteLongLog(t *testing.T) { // P13.3: a log that can't be longer
	d := roomy(t, small())
	l := many(100, 1024)
	mustWrite(t, d, "a=1")
	mustFreeze(t, d)
	n := 0
	for {
		was := standing(d)
		_, e := d.Write(l)
		if e == api.OK {
			n++
			continue
		}
		want(t, "no room in the log", e, api.ErrFull)
		want(t, "nothing has changed", standing(d), was)
		break
	}
	want(t, "batches of 100 KiB", n, 10)
	mustFlush(t, d) // then the next one freezes, and is in a new log
	want(t, "behind that", mustWrite(t, d, "b=1"), uint64(n+2))
	mustFlush(t, d)
	want(t, "Write", mustWrite(t, d, "c=1"), uint64(n+3))
	should := now(d)
	want(t, "Open", now(mustOpen(t, d.FS(), small())) == should, true)
}

func TestWriteFails(t *testing.T) { // P13.3: the log's append and sync
	for _, op := range []int{api.OpAppend, api.OpSync} {
		for _, kind := range []int{api.FaultClean, api.FaultDone} {
			d := fresh(t, small())
			mustWrite(t, d, "a=1")
			mustFreeze(t, d)
			mustWrite(t, d, "b=2")
			s := d.Snap()
			was, info := text(d, api.MaxSeq), d.Info()
			d.FS().Fail([]api.Fault{{Op: op, Nth: 1, Kind: kind}})
			n, e := d.Write(batch("b=3", "c=3"))
			want(t, "Write", e, api.ErrIO)
			want(t, "its sequence", n, 0)
			wantStopped(t, d, was, info)
			want(t, "Snap", d.Snap(), s)
			want(t, "Release", d.Release(s), api.OK)
			want(t, "Release", d.Release(s), api.OK)
			want(t, "Release", d.Release(s), api.ErrNone)
			there := now(mustOpen(t, d.FS().Fork(), small()))
			done := op == api.OpSync || kind == api.FaultDone
			want(t, "found again", there, map[bool]string{false: "a=1 b=2", true: "a=1 b=3 c=3"}[done])
			for keep := range 60 { // and behind a crash: wholly, or not at all
				f := d.FS().Fork()
				want(t, "Crash", f.Crash(api.Crash{Keep: []int{keep, keep, keep, keep, keep}}), api.OK)
				there := now(mustOpen(t, f, small()))
				want(t, "behind a crash", there == "a=1 b=2" || there == "a=1 b=3 c=3", true)
				lasts := op == api.OpSync && kind == api.FaultDone
				want(t, "which lasts", !lasts || there == "a=1 b=3 c=3", true)
			}
		}
	}
}

// wantStopped is that an engine takes no more changes, and reads as before.
func wantStopped(t *testing.T, d *lsm.DB, was string, info api.Info) {
	t.Helper()
	info.Stopped = true
	want(t, "Info", d.Info(), info)
	picture := picture(d.FS())
	ops := d.FS().Ops()
	n, e := d.Write(batch("z=1"))
	want(t, "Write", e, api.ErrStopped)
	want(t, "Write: its sequence", n, 0)
	_, e = d.Write(nil)
	want(t, "Write of no batch", e, api.ErrCell)
	told, e := d.WriteAll([][]api.Write{batch("z=1"), batch("y=1")})
	want(t, "WriteAll", e, api.ErrStopped)
	want(t, "WriteAll: sequences", len(told), 0)
	want(t, "Freeze", d.Freeze(), api.ErrStopped)
	is, e := d.Flush()
	want(t, "Flush", e, api.ErrStopped)
	want(t, "Flush: is it done", is, false)
	is, e = d.Compact()
	want(t, "Compact", e, api.ErrStopped)
	want(t, "Compact: is it done", is, false)
	want(t, "what is read", text(d, api.MaxSeq), was)
	want(t, "Info behind that", d.Info(), info)
	want(t, "no operation", d.FS().Ops(), ops)
	want(t, "the files", pictureBut(d.FS(), ""), picture)
}

func TestWriteLastSequence(t *testing.T) { // P13.3
	start := func(seq uint64) *lsm.DB {
		f := newDisk(t, 1<<20)
		point(t, f, 1, api.Edit{Next: 2, Seq: seq})
		return mustOpen(t, f, small())
	}
	d := start(api.MaxSeq - 2)
	want(t, "the last but one", mustWrite(t, d, "a=1"), api.MaxSeq-1)
	was := standing(d)
	_, e := d.WriteAll([][]api.Write{batch("b=1"), batch("c=1")})
	want(t, "two, with one left", e, api.ErrFull)
	want(t, "nothing has changed", standing(d), was)
	want(t, "the last one", mustWrite(t, d, "a=2"), api.MaxSeq)
	was = standing(d)
	_, e = d.Write(batch("b=1"))
	want(t, "none left", e, api.ErrFull)
	want(t, "nothing has changed", standing(d), was)
	want(t, "what is there", now(d), "a=2")
	d = mustOpen(t, d.FS(), small())
	want(t, "Open", now(d), "a=2")
	want(t, "Seq", d.Info().Seq, api.MaxSeq)
	_, e = d.Write(batch("b=1"))
	want(t, "none left", e, api.ErrFull)
	want(t, "Newest", d.Newest("a"), api.MaxSeq)
}

func TestWriteFreezes(t *testing.T) { // P13.3: Mem bytes in memory, and one less
	for size := 30; size <= 40; size++ {
		o := small()
		o.Mem = 36
		d := fresh(t, o)
		want(t, "Write", mustWrite(t, d, "a="+strings.Repeat("v", size-17)), 1)
		want(t, "Mem", d.Info().Mem, size)
		want(t, "not yet", d.Info().Frozen, 0)
		mustWrite(t, d, "b=1")
		if size >= 36 {
			want(t, "Frozen", d.Info().Frozen, size)
			want(t, "Mem", d.Info().Mem, 18)
			wantList(t, "logs", d.FS().List(), []string{"current", "manifest-000002", "wal-000001", "wal-000003"})
			want(t, "the new log", string(bytesOf(t, d.FS(), "wal-000003")), string(logOf(t, rec(t, 2, "b=1"))))
			want(t, "the old log", string(bytesOf(t, d.FS(), "wal-000001")), string(logOf(t, rec(t, 1, "a="+strings.Repeat("v", size-17)))))
		} else {
			want(t, "Frozen", d.Info().Frozen, 0)
			want(t, "Mem", d.Info().Mem, size+18)
			wantList(t, "logs", d.FS().List(), []string{"current", "manifest-000002", "wal-000001"})
		}
		want(t, "State", d.State().Log, 1)
	}
}

func TestWriteFreezesOnce(t *testing.T) { // P13.3: none are frozen
	o := small()
	o.Mem = 1
	d := fresh(t, o)
	mustWrite(t, d, "a=1")
	for i := range 20 {
		mustWrite(t, d, "b="+strconv.Itoa(i))
		want(t, "Frozen", d.Info().Frozen, 18)
		want(t, "logs", len(d.FS().List()), 4)
	}
	mustFlush(t, d)
	mem := d.Info().Mem
	want(t, "WriteAll", func() api.Errno {
		_, e := d.WriteAll([][]api.Write{batch("c=1"), batch("d=1"), batch("e=1")})
		return e
	}(), api.OK)
	want(t, "frozen ahead of the first", d.Info().Frozen, mem)
	want(t, "all others are in memory", d.Info().Mem, 54)
	want(t, "what is there", now(d), "a=1 b=19 c=1 d=1 e=1")
	want(t, "Open", now(mustOpen(t, d.FS(), small())), "a=1 b=19 c=1 d=1 e=1")
}

func TestWriteFreezeRefused(t *testing.T) { // P13.3: for want of room: passed over
	o := small()
	o.Mem = 1
	d := fresh(t, o)
	mustWrite(t, d, "a=1")
	crowd(t, d.FS(), 0)
	want(t, "Freeze", d.Freeze(), api.ErrFull)
	want(t, "Write", mustWrite(t, d, "b=2"), 2)
	want(t, "Info", d.Info(), api.Info{Seq: 2, Oldest: 2, Mem: 36})
	unfill(t, d.FS())
	want(t, "Write", mustWrite(t, d, "c=3"), 3)
	want(t, "with room", d.Info(), api.Info{Seq: 3, Oldest: 3, Mem: 18, Frozen: 36})
	want(t, "what is there", now(mustOpen(t, d.FS(), small())), "a=1 b=2 c=3")

	f := newDisk(t, 1<<20) // for want of a number
	lay(t, f, wal.Name(api.MaxNumber-2), nil)
	d = mustOpen(t, f, o)
	mustWrite(t, d, "a=1")
	mustWrite(t, d, "b=2")
	want(t, "without a number", d.Info(), api.Info{Seq: 2, Oldest: 2, Mem: 36})
}

func TestWriteFullUnfrozen(t *testing.T) { // P13.3: where it is refused nothing has changed: nothing is frozen
	o := small()
	o.Mem = 1
	d := fresh(t, o)
	mustWrite(t, d, "a=1")
	was := standing(d)
	_, e := d.Write(many(1024, 1024))
	want(t, "a long record", e, api.ErrFull)
	want(t, "nothing has changed", standing(d), was)
	need := len(logOf(t, rec(t, 2, "b=2")))
	fill(t, d.FS(), need-1)
	was = standing(d)
	_, e = d.Write(batch("b=2"))
	want(t, "no room", e, api.ErrFull)
	want(t, "nothing has changed", standing(d), was)
	unfill(t, d.FS())
	fill(t, d.FS(), need)
	want(t, "just room enough", mustWrite(t, d, "b=2"), 2)
	want(t, "frozen", d.Info().Frozen, 18)
}

func TestWriteFreezeFails(t *testing.T) { // P13.3: the engine stops
	for _, op := range []int{api.OpCreate, api.OpSyncDir} {
		for _, kind := range []int{api.FaultClean, api.FaultDone} {
			o := small()
			o.Mem = 1
			d := fresh(t, o)
			mustWrite(t, d, "a=1")
			was, info := text(d, api.MaxSeq), d.Info()
			d.FS().Fail([]api.Fault{{Op: op, Nth: 1, Kind: kind}})
			n, e := d.Write(batch("b=2"))
			want(t, "Write", e, api.ErrIO)
			want(t, "its sequence", n, 0)
			wantStopped(t, d, was, info)
			d.FS().Fail(nil)
			for dir := range d.FS().Pending() + 1 {
				f := d.FS().Fork()
				want(t, "Crash", f.Crash(api.Crash{Dir: dir}), api.OK)
				want(t, "behind a crash", now(mustOpen(t, f, o)), "a=1")
			}
		}
	}
}

func TestWriteWithoutPower(t *testing.T) { // R1: whatever the file system does, nothing panics
	o := small()
	o.Mem = 1
	for stop := range 12 {
		d := fresh(t, o)
		mustWrite(t, d, "a=1")
		d.FS().Stop(stop)
		for i := range 5 {
			d.Write(batch(fmt.Sprint("b=", i)))
			d.Flush()
			d.Compact()
		}
		want(t, "Crash", d.FS().Crash(api.Crash{}), api.OK)
		d = mustOpen(t, d.FS(), o)
		v, is := d.Get("a", api.MaxSeq)
		want(t, "what was told", v, "1")
		want(t, "is there", is, true)
	}
}
