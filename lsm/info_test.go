package lsm_test

import (
	"testing"

	"atrium/api"
	"atrium/lsm"
)

func TestInfo(t *testing.T) { // P13.7
	d := fresh(t, small())
	want(t, "nothing", d.Info(), api.Info{})
	mustWrite(t, d, "a=1", "bc=23")
	want(t, "memory", d.Info(), api.Info{Seq: 1, Oldest: 1, Mem: 18 + 20})
	d.Snap()
	mustWrite(t, d, "a-")
	want(t, "a snapshot", d.Info(), api.Info{Seq: 2, Oldest: 1, Mem: 18 + 20 + 17})
	mustFreeze(t, d)
	mustWrite(t, d, "d=")
	want(t, "frozen", d.Info(), api.Info{Seq: 3, Oldest: 1, Mem: 17, Frozen: 55})
	mustFlush(t, d)
	want(t, "a table", d.Info(), api.Info{Seq: 3, Oldest: 1, Mem: 17, Tables: 1})
	mustFreeze(t, d)
	mustFlush(t, d)
	want(t, "two tables", d.Info(), api.Info{Seq: 3, Oldest: 1, Tables: 2})
	mustCompact(t, d)
	want(t, "merged", d.Info(), api.Info{Seq: 3, Oldest: 1, Tables: 1})
	d.FS().Fail([]api.Fault{{Op: api.OpAppend, Nth: 1, Kind: api.FaultClean}})
	d.Write(batch("e=1"))
	want(t, "stopped", d.Info(), api.Info{Seq: 3, Oldest: 1, Tables: 1, Stopped: true})
	d.FS().Fail(nil)
	d = mustOpen(t, d.FS(), small())
	want(t, "opened again", d.Info(), api.Info{Seq: 3, Oldest: 3, Tables: 1})
}

func TestState(t *testing.T) { // P13.7, R3
	d := fresh(t, small())
	layDown(t, d, "a=1", "b=1")
	layDown(t, d, "c=1")
	s := d.State()
	s.Version.Levels[0][0].First = "z"
	s.Version.Levels[0] = nil
	want(t, "an answer is new memory", len(d.State().Version.Levels[0]), 2)
	want(t, "its files", d.State().Version.Levels[0][0].First, "a")
	want(t, "Right", d.Right(), api.OK)
	want(t, "what is there", now(d), "a=1 b=1 c=1")
	f := newDisk(t, 1<<20)
	want(t, "FS", mustOpen(t, f, small()).FS() == f, true)
}

func TestRight(t *testing.T) { // P13.7
	start := func() *lsm.DB {
		d := fresh(t, small())
		layDown(t, d, "a=1", "b=1")
		layDown(t, d, "c=2")
		mustCompact(t, d)
		layDown(t, d, "d=3")
		want(t, "Right", d.Right(), api.OK)
		return d
	}
	for what, turn := range map[string]func(d *lsm.DB, name string){
		"missing":     func(d *lsm.DB, name string) { d.FS().Remove(name) },
		"longer":      func(d *lsm.DB, name string) { d.FS().Append(name, []byte("x")) },
		"renamed":     func(d *lsm.DB, name string) { d.FS().Rename(name, "other") },
		"another one": func(d *lsm.DB, name string) { replace(t, d.FS(), name, tableOf(t, 3, "d=3", "e=3")) },
		"no table":    func(d *lsm.DB, name string) { replace(t, d.FS(), name, nil) },
		"can't be read": func(d *lsm.DB, name string) {
			d.FS().Fail([]api.Fault{{Op: api.OpRead, Nth: 2, Kind: api.FaultDone}})
		},
	} {
		for _, level := range []int{0, 1} {
			d := start()
			name := tableName(d.State().Version.Levels[level][0].Number)
			should := now(d)
			turn(d, name)
			want(t, what, d.Right(), api.ErrDamaged)
			want(t, what+": it reads as before", now(d), should)
			want(t, what+": it is not stopped", d.Info().Stopped, false)
		}
	}
	d := start() // other files are not asked
	d.FS().Remove("current")
	want(t, "without a current", d.Right(), api.OK)
}

func TestNone(t *testing.T) { // P13.7: of a nil DB
	for what, d := range map[string]*lsm.DB{"nil": nil, "one that Open did not give": {}} {
		n, e := d.Write(batch("a=1"))
		want(t, what+": Write", e, api.ErrClosed)
		want(t, what+": Write", n, 0)
		_, e = d.Write(nil)
		want(t, what+": Write of none", e, api.ErrClosed)
		l, e := d.WriteAll([][]api.Write{batch("a=1")})
		want(t, what+": WriteAll", e, api.ErrClosed)
		want(t, what+": WriteAll", len(l), 0)
		_, e = d.WriteAll(nil)
		want(t, what+": WriteAll of none", e, api.ErrClosed)
		v, is := d.Get("a", 1)
		want(t, what+": Get", v, "")
		want(t, what+": Get", is, false)
		want(t, what+": Newest", d.Newest("a"), 0)
		want(t, what+": Scan", text(d, 1), "")
		want(t, what+": Snap", d.Snap(), 0)
		want(t, what+": Release", d.Release(0), api.ErrClosed)
		want(t, what+": Freeze", d.Freeze(), api.ErrClosed)
		is, e = d.Flush()
		want(t, what+": Flush", e, api.ErrClosed)
		want(t, what+": Flush", is, false)
		is, e = d.Compact()
		want(t, what+": Compact", e, api.ErrClosed)
		want(t, what+": Compact", is, false)
		want(t, what+": Info", d.Info(), api.Info{})
		wantState(t, what+": State", d.State(), api.State{})
		want(t, what+": FS", d.FS() == nil, true)
		want(t, what+": Right", d.Right(), api.ErrClosed)
	}
}
