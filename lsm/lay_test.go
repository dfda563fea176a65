package lsm_test

import (
	"fmt"
	"slices"
	"strings"
	"testing"

	"atrium/api"
	"atrium/lsm"
	"atrium/manifest"
	"atrium/merge"
	"atrium/pick"
)

func TestFreeze(t *testing.T) { // P13.6
	d := fresh(t, small())
	was, ops := standing(d), d.FS().Ops()
	want(t, "nothing in memory", d.Freeze(), api.OK)
	want(t, "nothing is done", standing(d), was)
	want(t, "no operation", d.FS().Ops(), ops)
	mustWrite(t, d, "a=1", "b=1")
	state := d.State()
	mustFreeze(t, d)
	want(t, "Info", d.Info(), api.Info{Seq: 1, Oldest: 1, Frozen: 36})
	wantState(t, "the manifest says nothing of it", d.State(), state)
	want(t, "the new log lasts", d.FS().Pending(), 0)
	wantFiles(t, d)
	was = standing(d)
	want(t, "some are frozen, none in memory", d.Freeze(), api.ErrFull)
	want(t, "nothing has changed", standing(d), was)
	mustWrite(t, d, "a=2")
	was = standing(d)
	want(t, "some are frozen, some in memory", d.Freeze(), api.ErrFull)
	want(t, "nothing has changed", standing(d), was)
	want(t, "what is there", now(d), "a=2 b=1")
	want(t, "what was there", text(d, 1), "a=1 b=1")
	wantList(t, "both logs", logRecords(t, d), []string{rec(t, 1, "a=1", "b=1"), rec(t, 2, "a=2")})
	mustFlush(t, d)
	mustFreeze(t, d)
	mustFlush(t, d)
	want(t, "nothing in memory", d.Freeze(), api.OK)
	want(t, "none are frozen", d.Info().Frozen, 0)
	want(t, "Open", now(mustOpen(t, d.FS(), small())), "a=2 b=1")
}

func TestFreezeRoom(t *testing.T) { // P13.6: a log needs a file, but no bytes
	d := fresh(t, small())
	mustWrite(t, d, "a=1")
	f := d.FS()
	crowd(t, f, 0)
	was, ops := standing(d), f.Ops()
	want(t, "no room", d.Freeze(), api.ErrFull)
	want(t, "nothing has changed", standing(d), was)
	want(t, "no operation", f.Ops(), ops)
	unfill(t, f)
	fill(t, f, 0)
	want(t, "a full disk", d.Freeze(), api.OK)
	unfill(t, f)
	wantFiles(t, d)
}

func TestFlush(t *testing.T) { // P13.6
	d := fresh(t, small())
	was, ops := standing(d), d.FS().Ops()
	is, e := d.Flush()
	want(t, "none are frozen", e, api.OK)
	want(t, "none are frozen: is it done", is, false)
	mustWrite(t, d, "b=1", "a=1")
	is, _ = d.Flush()
	want(t, "some in memory alone", is, false)
	mustWrite(t, d, "c=2", "a-")
	mustWrite(t, d, "c=3")
	mustFreeze(t, d)
	mustWrite(t, d, "d=4") // the log that is written to goes on
	mustFlush(t, d)
	want(t, "an engine's numbers", was != standing(d) && ops != d.FS().Ops(), true)
	want(t, "without what nobody reads", cellText(cellsOf(t, d)), "a2- b1=1 c3=3")
	s := d.State()
	table := sstOf(t, 4, bytesOf(t, d.FS(), "table-000004"))
	wantState(t, "State", s, api.State{Version: api.Version{Levels: [][]api.Sst{{table}}}, Log: 3, Next: 5, Seq: 3})
	want(t, "Info", d.Info(), api.Info{Seq: 4, Oldest: 4, Mem: 18, Tables: 1})
	wantList(t, "files", d.FS().List(), []string{"current", "manifest-000002", "table-000004", "wal-000003"})
	wantFiles(t, d)
	want(t, "all lasts", d.FS().Pending(), 0)
	whole := manifest.Whole(api.State{Log: 1, Next: 3})
	edit := api.Edit{Log: 3, Next: 5, Seq: 3, Added: []api.Placed{{Level: 0, Sst: table}}}
	want(t, "the manifest", string(bytesOf(t, d.FS(), "manifest-000002")), string(edits(t, whole, edit)))
	want(t, "what is there", now(d), "b=1 c=3 d=4")
	mustFreeze(t, d)
	mustFlush(t, d)
	want(t, "on level 0, in order", cellText(cellsOf(t, d)), "a2- b1=1 c3=3 d4=4")
	want(t, "level 0", len(d.State().Version.Levels[0]), 2)
	want(t, "the state's sequence", d.State().Seq, 4)
	wantFiles(t, d)
	is, e = d.Flush()
	want(t, "nothing more", e == api.OK && !is, true)
}

func TestFlushSeveral(t *testing.T) { // P13.6: as pick.Split says
	o := small()
	d := roomy(t, o)
	var all []api.Cell
	for i := range 4 {
		l := many(200, 900)
		for j := range l {
			l[j].Key += string(rune('a' + i))
		}
		n, e := d.Write(l)
		want(t, "Write", e, api.OK)
		var cells []api.Cell
		for _, w := range l {
			cells = append(cells, api.Cell{Key: w.Key, Seq: n, Value: w.Value})
		}
		all = merge.Merge(all, cells)
	}
	mustFlush(t, d) // what the third one froze
	mustFreeze(t, d)
	was := d.Info().Tables
	mustFlush(t, d)
	wantFiles(t, d)
	want(t, "tables", d.Info().Tables, was+2)
	var pieces []string
	for _, x := range d.State().Version.Levels[0] {
		pieces = append(pieces, fmt.Sprint(x.First, x.Last, x.Count))
	}
	var should []string
	for _, half := range [][]byte{[]byte("ab"), []byte("cd")} {
		l := slices.DeleteFunc(slices.Clone(all), func(c api.Cell) bool { return !slices.Contains(half, c.Key[len(c.Key)-1]) })
		for _, p := range pick.Split(l, o) {
			should = append(should, fmt.Sprint(p[0].Key, p[len(p)-1].Key, len(p)))
		}
	}
	wantList(t, "pieces", pieces, should)
}

// Of one key more cells are kept than a table may have.
func TestFlushLongKey(t *testing.T) { // P13.6: ErrFull, and nothing has changed
	d := roomy(t, small())
	d.Snap()
	value := strings.Repeat("v", 1024)
	var l [][]api.Write
	for range 1000 {
		l = append(l, batch("k="+value))
	}
	if _, e := d.WriteAll(l); e != api.OK {
		t.Fatal(e)
	}
	mustFreeze(t, d)
	was, ops := standing(d), d.FS().Ops()
	is, e := d.Flush()
	want(t, "too long for a table", e, api.ErrFull)
	want(t, "is it done", is, false)
	want(t, "nothing has changed", standing(d) == was, true)
	want(t, "no operation", d.FS().Ops(), ops)
	want(t, "Release", d.Release(0), api.OK)
	mustFlush(t, d)
	want(t, "one cell", len(cellsOf(t, d)), 1)
}

func TestCompact(t *testing.T) { // P13.6
	d := fresh(t, small())
	idle := func(what string) {
		t.Helper()
		was, ops := standing(d), d.FS().Ops()
		is, e := d.Compact()
		want(t, what, e, api.OK)
		want(t, what+": is it done", is, false)
		want(t, what+": nothing is done", standing(d), was)
		want(t, what+": no operation", d.FS().Ops(), ops)
	}
	idle("no table")
	layDown(t, d, "a=1", "b=1", "c=1")
	idle("one table")
	layDown(t, d, "b-", "c=2")
	mustWrite(t, d, "c=3") // in memory: it is not touched
	s := d.State()
	job, _ := pick.Next(s.Version, small())
	mustCompact(t, d)
	want(t, "at the bottom, and in memory there is a newer one", cellText(cellsOf(t, d)), "a1=1 c2=2")
	table := sstOf(t, 7, bytesOf(t, d.FS(), "table-000007"))
	wantState(t, "State", d.State(), api.State{Version: api.Version{Levels: [][]api.Sst{nil, {table}}}, Log: s.Log, Next: 8, Seq: s.Seq})
	want(t, "Info", d.Info(), api.Info{Seq: 3, Oldest: 3, Mem: 18, Tables: 1})
	wantFiles(t, d)
	want(t, "all lasts", d.FS().Pending(), 0)
	b := bytesOf(t, d.FS(), "manifest-000002")
	edit := edits(t, api.Edit{Log: s.Log, Next: 8, Seq: s.Seq, Gone: job.Inputs, Added: []api.Placed{{Level: 1, Sst: table}}})
	want(t, "the manifest's last record", strings.HasSuffix(string(b), string(edit)), true)
	want(t, "what is there", now(d), "a=1 c=3")
	idle("at rest")
	want(t, "Open", now(mustOpen(t, d.FS(), small())), "a=1 c=3")
}

func TestCompactBottom(t *testing.T) { // P13.6: what is gone stays, as long as deeper levels may have the key
	o := small()
	o.Base = 1
	d := fresh(t, o)
	layDown(t, d, "a=1", "b=1")
	layDown(t, d, "c=2")
	mustCompact(t, d) // into level 1
	mustCompact(t, d) // into level 2
	layDown(t, d, "b-", "c=3")
	layDown(t, d, "c-")
	want(t, "levels", len(d.State().Version.Levels), 3)
	mustCompact(t, d) // into level 1: level 2 has them
	want(t, "not at the bottom", cellText(cellsOf(t, d)), "b3- c4- a1=1 b1=1 c2=2")
	want(t, "Newest", d.Newest("b"), 3)
	mustCompact(t, d) // into level 2
	want(t, "at the bottom", cellText(cellsOf(t, d)), "a1=1")
	want(t, "what is there", now(d), "a=1")
	wantFiles(t, d)
}

func TestCompactNothingLeft(t *testing.T) { // P13.6: no table, if nothing is left
	d := fresh(t, small())
	layDown(t, d, "a=1", "b=1")
	layDown(t, d, "a-", "b-")
	next := d.State().Next
	mustCompact(t, d)
	wantState(t, "State", d.State(), api.State{Log: d.State().Log, Next: next, Seq: 2})
	want(t, "Tables", d.Info().Tables, 0)
	want(t, "what is there", now(d), "")
	wantFiles(t, d)
	layDown(t, d, "c=3")
	want(t, "Open", now(mustOpen(t, d.FS(), small())), "c=3")
}

func TestCompactLongKey(t *testing.T) { // P13.6: a key with more cells than a table may have
	d := roomy(t, small())
	d.Snap()
	value := strings.Repeat("v", 1024)
	for range 3 {
		var l [][]api.Write
		for range 400 {
			l = append(l, batch("k="+value))
		}
		if _, e := d.WriteAll(l); e != api.OK {
			t.Fatal(e)
		}
		if d.Info().Frozen == 0 {
			mustFreeze(t, d)
		}
		mustFlush(t, d)
	}
	was, ops := standing(d), d.FS().Ops()
	is, e := d.Compact()
	want(t, "too long for a table", e, api.ErrFull)
	want(t, "is it done", is, false)
	want(t, "nothing has changed", standing(d) == was, true)
	want(t, "no operation", d.FS().Ops(), ops)
	want(t, "Release", d.Release(0), api.OK)
	mustCompact(t, d)
	want(t, "one cell", len(cellsOf(t, d)), 1)
}

// The four calls that lay down and merge, each on an engine of its own that has something to do.
func calls() map[string]struct {
	start func(t *testing.T) *lsm.DB
	call  func(d *lsm.DB) api.Errno
} {
	return map[string]struct {
		start func(t *testing.T) *lsm.DB
		call  func(d *lsm.DB) api.Errno
	}{
		"Freeze": {func(t *testing.T) *lsm.DB {
			d := fresh(t, small())
			layDown(t, d, "a=1", "b=1")
			mustWrite(t, d, "b-", "c=2")
			return d
		}, func(d *lsm.DB) api.Errno { return d.Freeze() }},
		"Flush": {func(t *testing.T) *lsm.DB {
			d := fresh(t, small())
			layDown(t, d, "a=1", "b=1")
			mustWrite(t, d, "b-", "c=2")
			mustFreeze(t, d)
			mustWrite(t, d, "a=3")
			return d
		}, func(d *lsm.DB) api.Errno { _, e := d.Flush(); return e }},
		"Compact": {func(t *testing.T) *lsm.DB {
			d := fresh(t, small())
			layDown(t, d, "a=1", "b=1")
			layDown(t, d, "b-", "c=2")
			mustWrite(t, d, "d=3")
			mustFreeze(t, d)
			mustWrite(t, d, "a=4")
			return d
		}, func(d *lsm.DB) api.Errno { _, e := d.Compact(); return e }},
		"Compact to nothing": {func(t *testing.T) *lsm.DB {
			d := fresh(t, small())
			layDown(t, d, "a=1")
			layDown(t, d, "a-")
			mustWrite(t, d, "d=3")
			return d
		}, func(d *lsm.DB) api.Errno { _, e := d.Compact(); return e }},
	}
}

func TestLayingRoom(t *testing.T) { // P13.6: just room enough, and one byte or file less
	for what, x := range calls() {
		if what == "Freeze" {
			continue
		}
		d := x.start(t)
		before, files := d.State(), len(d.FS().List())
		manifestSize := len(bytesOf(t, d.FS(), "manifest-000002"))
		want(t, what, x.call(d), api.OK)
		need, made := len(bytesOf(t, d.FS(), "manifest-000002"))-manifestSize, 0
		for _, n := range manifest.Files(d.State()) {
			if n >= before.Next {
				need += len(bytesOf(t, d.FS(), tableName(n)))
				made++
			}
		}
		for _, left := range []int{0, 1, need - 1, need} {
			d := x.start(t)
			should := now(d)
			fill(t, d.FS(), left)
			was, ops := standing(d), d.FS().Ops()
			if left == need {
				want(t, what+": just room enough", x.call(d), api.OK)
			} else {
				want(t, what+": no room", x.call(d), api.ErrFull)
				want(t, what+": nothing has changed", standing(d) == was, true)
				want(t, what+": no operation", d.FS().Ops(), ops)
				unfill(t, d.FS())
				want(t, what+": behind that", x.call(d), api.OK)
			}
			unfill(t, d.FS())
			wantFiles(t, d)
			want(t, what+": what is there", now(d), should)
		}
		for left := range 3 {
			d := x.start(t)
			want(t, "files", len(d.FS().List()), files)
			crowd(t, d.FS(), left)
			was := standing(d)
			if left >= made {
				want(t, what+": files enough", x.call(d), api.OK)
				continue
			}
			want(t, what+": no file", x.call(d), api.ErrFull)
			want(t, what+": nothing has changed", standing(d) == was, true)
		}
	}
}

func TestLayingNumbers(t *testing.T) { // P13.6: no number left is no room
	o := small()
	f := newDisk(t, 1<<20)
	lay(t, f, fmt.Sprintf("wal-%06d", api.MaxNumber-3), nil)
	d := mustOpen(t, f, o) // two numbers are taken, one is left
	mustWrite(t, d, "a=1")
	mustFreeze(t, d)
	was := standing(d)
	_, e := d.Flush()
	want(t, "Flush", e, api.ErrFull)
	want(t, "nothing has changed", standing(d), was)
	want(t, "what is there", now(d), "a=1")
}

func TestLayingLongManifest(t *testing.T) { // P13.6: a manifest that can't be longer is no room
	o := small()
	o.Zero, o.Base = 1, 1<<20
	d := roomy(t, o)
	key := strings.Repeat("k", 128)
	for {
		mustWrite(t, d, key+"=1")
		mustFreeze(t, d)
		if size, _ := d.FS().Size("manifest-000002"); size < api.MaxFile-1000 {
			mustFlush(t, d)
			mustCompact(t, d)
			continue
		}
		was, ops := standing(d), d.FS().Ops()
		_, e := d.Flush()
		if e == api.OK {
			was, ops = standing(d), d.FS().Ops()
			_, e = d.Compact()
		}
		if e != api.OK {
			want(t, "a long manifest", e, api.ErrFull)
			want(t, "nothing has changed", standing(d) == was, true)
			want(t, "no operation", d.FS().Ops(), ops)
			size, _ := d.FS().Size("manifest-000002")
			want(t, "it is long", size > api.MaxFile-400, true)
			break
		}
	}
	d = mustOpen(t, d.FS(), o)
	want(t, "a new one", now(d), key+"=1")
	mustWrite(t, d, "a=1")
	mustFreeze(t, d)
	mustFlush(t, d)
	mustCompact(t, d)
	wantFiles(t, d)
}

func TestLayingFails(t *testing.T) { // P13.6: each operation fails in turn: the engine stops
	for what, x := range calls() {
		d := x.start(t)
		at := d.FS().Ops()
		want(t, what, x.call(d), api.OK)
		end := d.FS().Ops()
		counts := []int{end.Creates - at.Creates, end.Appends - at.Appends, end.Syncs - at.Syncs, end.Renames - at.Renames, end.Removes - at.Removes, end.SyncDirs - at.SyncDirs, end.Reads - at.Reads}
		for op, n := range counts {
			for nth := range n {
				for _, kind := range []int{api.FaultClean, api.FaultDone} {
					d := x.start(t)
					was, should, info, state := text(d, api.MaxSeq), now(d), d.Info(), d.State()
					d.FS().Fail([]api.Fault{{Op: op + 1, Nth: nth + 1, Kind: kind}})
					want(t, what, x.call(d), api.ErrIO)
					d.FS().Fail(nil)
					fault := fmt.Sprint(what, " with ", op+1, " ", nth+1, " ", kind)
					if !slices.ContainsFunc(manifest.Files(d.State()), func(n int) bool { return n >= state.Next }) && what != "Compact to nothing" {
						wantStopped(t, d, was, info)
						wantState(t, fault+": State", d.State(), state)
					} else { // the manifest says it, only the removing failed
						want(t, fault+": it was a removing, or the last of the directory", op+1 == api.OpRemove || op+1 == api.OpSyncDir || what == "Compact to nothing", true)
						wantStopped(t, d, was, d.Info())
					}
					want(t, fault+": Right", d.Right(), api.OK)
					again := mustOpen(t, d.FS().Fork(), small())
					want(t, fault+": Open", now(again), should)
					wantFiles(t, again)
					for dir := range d.FS().Pending() + 1 {
						for _, keep := range []int{0, 20, 1 << 20} {
							f := d.FS().Fork()
							want(t, "Crash", f.Crash(api.Crash{Dir: dir, Keep: slices.Repeat([]int{keep}, 20)}), api.OK)
							again := mustOpen(t, f, small())
							want(t, fault+": behind a crash", now(again), should)
							wantFiles(t, again)
						}
					}
				}
			}
		}
	}
}

func TestRest(t *testing.T) { // P13.11
	for _, o := range []api.Options{
		{Shape: shape(), Mem: 100, Zero: 1, Base: 1, Fan: 2},
		{Shape: shape(), Mem: 300, Zero: 2, Base: 300, Fan: 2},
		{Shape: shape(), Mem: 1000, Zero: 4, Base: 1000, Fan: 3},
		{Shape: shape(), Mem: 1 << 18, Zero: 16, Base: 1 << 20, Fan: 16},
	} {
		d := roomy(t, o)
		var m told
		for i := range 300 {
			l := batch(fmt.Sprintf("k%d=%d", i*7%50, i), fmt.Sprintf("l%d-", i*3%20), fmt.Sprintf("l%d=%d", i*11%20, i))
			_, e := d.Write(l)
			want(t, "Write", e, api.OK)
			m = m.with(l)
			if i%5 == 0 {
				d.Flush()
			}
		}
		work := -1
		for {
			d.Freeze()
			laid, e := d.Flush()
			want(t, "Flush", e, api.OK)
			if laid {
				work = -1
			}
			merged, e := d.Compact()
			want(t, "Compact", e, api.OK)
			if !laid && !merged {
				break
			}
			now := pick.Work(d.State().Version)
			want(t, "the Work is less", work < 0 || now < work, true)
			work = now
			wantFiles(t, d)
		}
		want(t, "nothing is left in memory", d.Info().Mem+d.Info().Frozen, 0)
		want(t, "Rests", pick.Rests(d.State().Version, o), true)
		want(t, "what is there", now(d), m.text("", "", 300))
	}
}
