package lsm_test

import (
	"bytes"
	"slices"
	"strings"
	"testing"

	"atrium/api"
	"atrium/lsm"
	"atrium/manifest"
	"atrium/vfs"
	"atrium/wal"
)

// refuseOpen is that Open tells an error and no engine, and that the files are as they were.
func refuseOpen(t *testing.T, what string, f *vfs.FS, should api.Errno) {
	t.Helper()
	was, pending := picture(f), f.Pending()
	d, e := lsm.Open(f, small())
	want(t, what, e, should)
	want(t, what+": an engine", d == nil, true)
	want(t, what+": the files", picture(f), was)
	want(t, what+": pending", f.Pending(), pending)
}

func TestOpenArguments(t *testing.T) { // P13.2
	_, e := lsm.Open(nil, api.Options{})
	want(t, "no options are told first", e, api.ErrArg)
	d, e := lsm.Open(nil, small())
	want(t, "nil", e, api.ErrArg)
	want(t, "nil: an engine", d == nil, true)
	f := newDisk(t, 1<<20)
	d, e = lsm.Open(f, api.Options{})
	want(t, "options", e, api.ErrArg)
	want(t, "options: an engine", d == nil, true)
	want(t, "options: files", len(f.List()), 0)
}

func TestOpenNothing(t *testing.T) { // P13.2
	d := fresh(t, small())
	wantFiles(t, d)
	wantList(t, "files", d.FS().List(), []string{"current", "manifest-000002", "wal-000001"})
	wantState(t, "State", d.State(), api.State{Log: 1, Next: 3})
	want(t, "Info", d.Info(), api.Info{})
	want(t, "all lasts", d.FS().Pending(), 0)
	want(t, "current", string(bytesOf(t, d.FS(), "current")), "manifest-000002\n")
	d = mustOpen(t, d.FS(), small()) // no cell is left: nothing is laid down, but numbers go on
	wantFiles(t, d)
	wantList(t, "files", d.FS().List(), []string{"current", "manifest-000004", "wal-000003"})
	wantState(t, "State", d.State(), api.State{Log: 3, Next: 5})
}

func TestOpenCurrent(t *testing.T) { // P13.2: what current points to
	good := edits(t, api.Edit{Log: 3, Next: 9, Seq: 4})
	first := api.Edit{Log: 3, Next: 9, Seq: 4}
	for what, text := range map[string]string{
		"nothing": "", "no newline": "manifest-000007", "another name": "wal-000007\n", "another text": "x\n",
		"too few digits": "manifest-7\n", "a missing manifest": "manifest-000008\n", "two lines": "manifest-000007\nmanifest-000007\n",
	} {
		f := newDisk(t, 1<<20)
		lay(t, f, "manifest-000007", good)
		lay(t, f, "manifest-000000", good)
		lay(t, f, "current", []byte(text))
		refuseOpen(t, what, f, api.ErrDamaged)
	}
	turned := bytes.Clone(good)
	turned[8] ^= 1
	for what, b := range map[string][]byte{
		"no bytes": nil, "a torn record alone": good[:len(good)-1], "turned": turned, "no edit": logOf(t, "x"),
		"an edit that can't be done": edits(t, first, api.Edit{Log: 2, Next: 9, Seq: 4}), "the first one gone": edits(t, api.Edit{Next: 3, Gone: []api.At{{Level: 0, Number: 1}}}),
	} {
		f := newDisk(t, 1<<20)
		lay(t, f, "manifest-000007", b)
		lay(t, f, "current", []byte("manifest-000007\n"))
		refuseOpen(t, what, f, api.ErrDamaged)
	}
	f := newDisk(t, 1<<20) // a torn tail is passed over, whatever the number
	lay(t, f, "manifest-000000", append(bytes.Clone(good), good[:9]...))
	lay(t, f, "current", []byte("manifest-000000\n"))
	d := mustOpen(t, f, small())
	want(t, "Seq", d.Info().Seq, 4)
	wantState(t, "State", d.State(), api.State{Log: 9, Next: 11, Seq: 4})
	wantFiles(t, d)
}

// oneTable is files of a state that has a table and a log.
func oneTable(t *testing.T) (*vfs.FS, api.Edit) {
	t.Helper()
	f := newDisk(t, 1<<20)
	b := tableOf(t, 4, "a=1", "b-", "f=2")
	edit := api.Edit{Log: 5, Next: 9, Seq: 4, Added: []api.Placed{{Level: 2, Sst: sstOf(t, 6, b)}}}
	lay(t, f, "table-000006", b)
	lay(t, f, "wal-000005", logOf(t, rec(t, 5, "b=5")))
	return f, edit
}

func TestOpenTables(t *testing.T) { // P13.2: a table's file is as the state says
	f, edit := oneTable(t)
	point(t, f, 7, edit)
	d := mustOpen(t, f, small())
	want(t, "what is there", now(d), "a=1 b=5 f=2")
	wantFiles(t, d)
	for what, turn := range map[string]func(x *api.Sst){
		"Number": func(x *api.Sst) { x.Number = 8 },
		"Size":   func(x *api.Sst) { x.Size++ },
		"Count":  func(x *api.Sst) { x.Count-- },
		"First":  func(x *api.Sst) { x.First = "a\x00" },
		"Last":   func(x *api.Sst) { x.Last = "e" },
	} {
		f, edit := oneTable(t)
		turn(&edit.Added[0].Sst)
		point(t, f, 7, edit)
		refuseOpen(t, what, f, api.ErrDamaged)
	}
	for what, b := range map[string][]byte{"no bytes": nil, "no table": []byte("x"), "another one": tableOf(t, 4, "a=1", "b-", "f=3")} {
		f, edit := oneTable(t)
		point(t, f, 7, edit)
		replace(t, f, "table-000006", b)
		_, e := lsm.Open(f.Fork(), small())
		if what == "another one" { // of the same Size, Count, First and Last: nothing tells it
			want(t, what, e, api.OK)
			continue
		}
		refuseOpen(t, what, f, api.ErrDamaged)
	}
	f, edit = oneTable(t)
	point(t, f, 7, edit)
	b := bytesOf(t, f, "table-000006")
	for i := range b { // the tenth example of the whole
		turned := bytes.Clone(b)
		turned[i] ^= 1 << (i % 8)
		replace(t, f, "table-000006", turned)
		refuseOpen(t, "a byte turned", f, api.ErrDamaged)
	}
}

func TestOpenLogs(t *testing.T) { // P13.2: which logs count, and in which order
	start := func(names map[string][]byte) *vfs.FS {
		f := newDisk(t, 1<<20)
		point(t, f, 4, api.Edit{Log: 10, Next: 11, Seq: 2})
		for name, b := range names {
			lay(t, f, name, b)
		}
		return f
	}
	one, two, three := logOf(t, rec(t, 3, "a=3", "b=3")), logOf(t, rec(t, 4, "a=4"), rec(t, 5, "c=5")), logOf(t, rec(t, 6, "b-"))
	for what, x := range map[string]struct {
		names map[string][]byte
		seq   uint64
		text  string
	}{
		"none":                     {nil, 2, ""},
		"below the state's":        {map[string][]byte{"wal-000009": []byte("no log"), "wal-000000": one}, 2, ""},
		"the state's":              {map[string][]byte{"wal-000010": one, "wal-000009": two}, 3, "a=3 b=3"},
		"a greater one":            {map[string][]byte{"wal-000011": one}, 3, "a=3 b=3"},
		"several":                  {map[string][]byte{"wal-000010": one, "wal-000012": two, "wal-000300": three}, 6, "a=4 c=5"},
		"by numbers, not by names": {map[string][]byte{"wal-999999": one, "wal-1000000": two, "wal-20000000": three}, 6, "a=4 c=5"},
		"a torn one":               {map[string][]byte{"wal-000010": one, "wal-000012": two[:len(two)-1]}, 4, "a=4 b=3"},
		"a torn one ahead":         {map[string][]byte{"wal-000010": append(bytes.Clone(one), two[:9]...), "wal-000012": two}, 5, "a=4 b=3 c=5"},
		"empty ones":               {map[string][]byte{"wal-000010": nil, "wal-000011": one, "wal-000012": nil}, 3, "a=3 b=3"},
		"other names":              {map[string][]byte{"wal-10": one, "wal-0000010": one, "xwal-000010": one}, 2, ""},
	} {
		d := mustOpen(t, start(x.names), small())
		want(t, what+": Seq", d.Info().Seq, x.seq)
		want(t, what, now(d), x.text)
		want(t, what+": the state's", d.State().Seq, x.seq)
		want(t, what+": Right", d.Right(), api.OK)
	}
	turned := bytes.Clone(two)
	turned[len(turned)-1] ^= 1
	for what, names := range map[string]map[string][]byte{
		"bad":                  {"wal-000010": one, "wal-000011": turned},
		"bad, and one behind":  {"wal-000010": []byte("no log at all"), "wal-000011": one},
		"no record":            {"wal-000010": logOf(t, "x")},
		"an empty record":      {"wal-000010": logOf(t, "")},
		"a changed record":     {"wal-000010": logOf(t, rec(t, 3, "a=3")+"\x00")},
		"a sequence too great": {"wal-000010": two},
		"a sequence again":     {"wal-000010": one, "wal-000011": one},
		"a sequence below":     {"wal-000010": logOf(t, rec(t, 2, "a=2"))},
		"logs the wrong way":   {"wal-000010": two, "wal-000011": one},
		"a gap":                {"wal-000010": one, "wal-000011": three},
	} {
		refuseOpen(t, what, start(names), api.ErrDamaged)
	}
	f := newDisk(t, 1<<20) // without a current all logs count
	lay(t, f, "wal-000000", logOf(t, rec(t, 1, "a=1")))
	lay(t, f, "wal-000003", logOf(t, rec(t, 2, "b=2")))
	lay(t, f, "manifest-000005", edits(t, api.Edit{Log: 3, Next: 4, Seq: 1}))
	d := mustOpen(t, f, small())
	want(t, "without a current", now(d), "a=1 b=2")
	wantFiles(t, d)
	f = newDisk(t, 1<<20)
	lay(t, f, "wal-000003", logOf(t, rec(t, 2, "b=2")))
	refuseOpen(t, "without a current, and the first one", f, api.ErrDamaged)
}

func TestOpenDrops(t *testing.T) { // P13.2: what is laid down
	f := newDisk(t, 1<<20)
	d := mustOpen(t, f, small())
	d.Snap() // no snapshot outlives an opening
	for _, l := range [][]string{{"a=1", "b=1"}, {"a=2", "c=2"}, {"c-"}, {"b-", "d=4"}, {"d=5"}} {
		mustWrite(t, d, l...)
	}
	d = mustOpen(t, f, small())
	want(t, "the newest of each key, gone ones too", cellText(cellsOf(t, d)), "a2=2 b4- c3- d5=5")
	want(t, "on level 0", len(d.State().Version.Levels), 1)
	want(t, "Oldest", d.Info().Oldest, 5)
	want(t, "Newest of what is gone", d.Newest("b"), 4)
	want(t, "nothing in memory", d.Info().Mem, 0)
	want(t, "Release", d.Release(0), api.ErrNone)
	wantFiles(t, d)
	n := d.State().Log
	d = mustOpen(t, f, small())
	want(t, "nothing more is laid down", d.Info().Tables, 1)
	want(t, "numbers go on", d.State().Log > n, true)
	want(t, "what is there", now(d), "a=2 d=5")
}

func TestOpenSeveralTables(t *testing.T) { // P13.2: as pick.Split says
	d := roomy(t, small())
	for i := range 6 {
		l := many(100, 1024)
		for j := range l {
			l[j].Key += string(rune('a' + i))
		}
		if _, e := d.Write(l); e != api.OK {
			t.Fatal(e)
		}
	}
	should := now(d)
	d = mustOpen(t, d.FS(), small())
	want(t, "what is there", now(d) == should, true)
	want(t, "tables", d.Info().Tables, 3) // of 600 cells of 1047 bytes each
	want(t, "on level 0", len(d.State().Version.Levels[0]), 3)
	wantFiles(t, d)
}

func TestOpenNumbers(t *testing.T) { // P13.2: above those of all files, and removed what is not needed
	f := newDisk(t, 1<<20)
	d := mustOpen(t, f, small())
	layDown(t, d, "a=1")
	mustWrite(t, d, "b=2")
	for _, name := range []string{"table-000050", "manifest-000060", "wal-000070", "current-tmp", "other", "table-50", "wal-000000", "manifest-000000", "table-000000"} {
		lay(t, f, name, nil)
	}
	f2 := f.Fork()
	d = mustOpen(t, f, small())
	s := d.State()
	wantList(t, "tables", manifest.Files(s), []int{3 + 1, 71})
	want(t, "the log", s.Log, 72)
	want(t, "the next one", s.Next, 74)
	wantList(t, "files", f.List(), []string{"current", "manifest-000073", "other", "table-000004", "table-000071", "table-50", "wal-000072"})
	want(t, "what is there", now(d), "a=1 b=2")
	lay(t, f2, "table-000200", nil)
	d = mustOpen(t, f2, small())
	want(t, "above a table", d.State().Log, 202)
	lay(t, f2, "manifest-000300", nil)
	d = mustOpen(t, f2, small())
	want(t, "above a manifest", d.State().Log, 301)

	f = newDisk(t, 1<<20) // above the state's next one, where its files are gone
	point(t, f, 4, api.Edit{Log: 10, Next: 90, Seq: 2})
	want(t, "above the state's", mustOpen(t, f, small()).State().Log, 90)

	f = newDisk(t, 1<<20) // just two numbers left, and one
	lay(t, f, wal.Name(api.MaxNumber-2), nil)
	d = mustOpen(t, f, small())
	wantState(t, "the last numbers", d.State(), api.State{Log: api.MaxNumber - 1, Next: api.MaxNumber + 1})
	mustWrite(t, d, "a=1")
	was := standing(d)
	want(t, "Freeze without a number", d.Freeze(), api.ErrFull)
	want(t, "all is as it was", standing(d), was)
	refuseOpen(t, "no number", f, api.ErrFull)
	f = newDisk(t, 1<<20)
	lay(t, f, wal.Name(api.MaxNumber-1), nil)
	refuseOpen(t, "one number", f, api.ErrFull)
}

func TestOpenManifest(t *testing.T) { // P13.2: its first record makes the state whole
	f := newDisk(t, 1<<20)
	d := mustOpen(t, f, small())
	layDown(t, d, "a=1")
	layDown(t, d, "b=2")
	mustCompact(t, d)
	layDown(t, d, "c=3")
	mustWrite(t, d, "d=4")
	d = mustOpen(t, f, small())
	n, _ := manifest.Pointed(string(bytesOf(t, f, "current")))
	want(t, "its bytes", string(bytesOf(t, f, manifest.Name(n))), string(edits(t, manifest.Whole(d.State()))))
	want(t, "what is there", now(d), "a=1 b=2 c=3 d=4")
	want(t, "levels", len(d.State().Version.Levels), 2)
	wantFiles(t, d)
}

// worn is files of an engine that has all: tables on two levels, frozen cells and some in memory; and what they say.
func worn(t *testing.T, capacity int) (*vfs.FS, string) {
	t.Helper()
	f := newDisk(t, capacity)
	d := mustOpen(t, f, small())
	layDown(t, d, "a=1", "b=1", "x=1")
	layDown(t, d, "b-", "c=2")
	mustCompact(t, d)
	layDown(t, d, "c=3", "x-")
	mustWrite(t, d, "d=4", "e=4")
	mustFreeze(t, d)
	mustWrite(t, d, "d=5", "a=5")
	return f, now(d)
}

func TestOpenRoom(t *testing.T) { // P13.2: where there is no room
	f, should := worn(t, 12000)
	lay(t, f, "current-tmp", []byte("left behind")) // of no use, but of 11 bytes
	g := f.Fork()
	before := g.Left()
	d := mustOpen(t, g, small())
	newest := d.State().Version.Levels[0][1]
	need := newest.Size + len(bytesOf(t, g, manifest.Name(d.State().Next-1))) + len("manifest-000001\n")
	want(t, "there was room", need < before, true)
	for left := range need {
		g := f.Fork()
		fill(t, g, left)
		was := pictureBut(g, "current-tmp")
		d, e := lsm.Open(g, small())
		if left >= need-11 { // that of current-tmp is enough
			want(t, "with what was left behind", e, api.OK)
			want(t, "what is there", now(d), should)
			continue
		}
		want(t, "no room", e, api.ErrFull)
		want(t, "an engine", d == nil, true)
		want(t, "the files that are needed", pictureBut(g, "current-tmp"), was)
		unfill(t, g)
		d = mustOpen(t, g, small())
		want(t, "behind that", now(d), should)
		wantFiles(t, d)
	}
	for files := range 6 {
		g := f.Fork()
		crowd(t, g, files)
		d, e := lsm.Open(g, small())
		if files >= 3 { // a table, a log, a manifest; current-tmp is there
			want(t, "room for files", e, api.OK)
			continue
		}
		want(t, "no room for files", e, api.ErrFull)
		want(t, "an engine", d == nil, true)
		unfill(t, g)
		d = mustOpen(t, g, small())
		want(t, "behind that", now(d), should)
		wantFiles(t, d)
	}
}

func TestOpenUnchangedWithoutRoom(t *testing.T) { // P13.2: nothing is left behind where there is no room
	f, _ := worn(t, 12000)
	fill(t, f, 20)
	refuseOpen(t, "no room", f, api.ErrFull)
	f = newDisk(t, 10)
	refuseOpen(t, "a small disk", f, api.ErrFull)
	f = newDisk(t, 0)
	refuseOpen(t, "no disk", f, api.ErrFull)
}

func TestOpenMakesRoom(t *testing.T) { // P13.2, P13.9: what a crash left behind takes no room from Open
	f, should := worn(t, 20000)
	lay(t, f, "table-000900", bytes.Repeat([]byte("."), 5000))
	lay(t, f, "manifest-000901", bytes.Repeat([]byte("."), 5000))
	fill(t, f, 100)
	d := mustOpen(t, f, small())
	want(t, "what is there", now(d), should)
	want(t, "numbers are above theirs", d.State().Log, 903)
	wantList(t, "nothing is left", slices.DeleteFunc(f.List(), func(name string) bool { return strings.HasPrefix(name, "filler-") }),
		[]string{"current", "manifest-000904", "table-000007", "table-000009", "table-000902", "wal-000903"})

	f = newDisk(t, 1000) // without a current, too
	lay(t, f, "manifest-000000", bytes.Repeat([]byte("."), 500))
	lay(t, f, "table-000000", bytes.Repeat([]byte("."), 490))
	d = mustOpen(t, f, small())
	wantFiles(t, d)
	want(t, "numbers", d.State().Log, 1)
	f = newDisk(t, 510)
	lay(t, f, "manifest-000000", bytes.Repeat([]byte("."), 500))
	wantFiles(t, mustOpen(t, f, small()))
}

// faults is each operation of each kind that a call comes to: what fails, and how.
func faults(t *testing.T, f *vfs.FS, call func(f *vfs.FS)) []api.Fault {
	t.Helper()
	g := f.Fork()
	a := g.Ops()
	call(g)
	b := g.Ops()
	counts := []int{b.Creates - a.Creates, b.Appends - a.Appends, b.Syncs - a.Syncs, b.Renames - a.Renames, b.Removes - a.Removes, b.SyncDirs - a.SyncDirs, b.Reads - a.Reads}
	var l []api.Fault
	for i, n := range counts {
		for nth := 1; nth <= n; nth++ {
			l = append(l, api.Fault{Op: api.OpCreate + i, Nth: nth, Kind: api.FaultClean}, api.Fault{Op: api.OpCreate + i, Nth: nth, Kind: api.FaultDone})
		}
	}
	return l
}

func TestOpenFails(t *testing.T) { // P13.2: each operation fails in turn
	f, should := worn(t, 12000)
	lay(t, f, "current-tmp", nil)
	l := faults(t, f, func(f *vfs.FS) { mustOpen(t, f, small()) })
	seen := map[int]int{}
	for _, x := range l {
		seen[x.Op]++
		g := f.Fork()
		g.Fail([]api.Fault{x})
		d, e := lsm.Open(g, small())
		if x.Op == api.OpRead {
			want(t, "a read", e == api.ErrIO || e == api.ErrDamaged, true)
		} else {
			want(t, "an operation", e, api.ErrIO)
		}
		want(t, "an engine", d == nil, true)
		g.Fail(nil)
		want(t, "behind that", now(mustOpen(t, g.Fork(), small())), should)
		for dir := range g.Pending() + 1 {
			for _, keep := range []int{0, 1, 1 << 20} {
				h := g.Fork()
				want(t, "Crash", h.Crash(api.Crash{Dir: dir, Keep: slices.Repeat([]int{keep}, len(h.List())+9)}), api.OK)
				d := mustOpen(t, h, small())
				want(t, "behind that and a crash", now(d), should)
				wantFiles(t, d)
			}
		}
	}
	want(t, "kinds", len(seen), 7)
	want(t, "reads: current, manifest, two tables, two logs", seen[api.OpRead], 12)
}

func TestOpenReadFails(t *testing.T) { // P13.2: which read it is
	f, _ := worn(t, 12000)
	for nth, should := range []api.Errno{api.ErrIO, api.ErrDamaged, api.ErrDamaged, api.ErrDamaged, api.ErrIO, api.ErrIO} {
		g := f.Fork()
		g.Fail([]api.Fault{{Op: api.OpRead, Nth: nth + 1, Kind: api.FaultClean}})
		refuseOpen(t, "current, manifest, tables, logs", g, should)
	}
}

func TestOpenMakesRoomOfWhatLasts(t *testing.T) { // P13.9: a manifest's record that was not synced
	f := newDisk(t, 1<<20)
	d := mustOpen(t, f, small())
	layDown(t, d, "a=1", "b=1")
	layDown(t, d, "b=2", "c=2")
	f.Fail([]api.Fault{{Op: api.OpSync, Nth: 2, Kind: api.FaultClean}}) // the table's, then the manifest's
	_, e := d.Compact()
	want(t, "Compact", e, api.ErrIO)
	f.Fail(nil)
	fill(t, f, 0) // the inputs, which are not needed, are all that can be removed
	for stop := range 40 {
		g := f.Fork()
		g.Stop(stop)
		lsm.Open(g, small())
		for dir := range g.Pending() + 1 {
			h := g.Fork()
			want(t, "Crash", h.Crash(api.Crash{Dir: dir}), api.OK)
			unfill(t, h)
			d := mustOpen(t, h, small())
			want(t, "what is there", now(d), "a=1 b=2 c=2")
		}
	}
}

func TestOpenTurned(t *testing.T) { // P13.2, R1: files that were turned by others are told, or read as something that may be
	f, _ := worn(t, 12000)
	damaged := 0
	for _, x := range f.Files() {
		for i := range x.Bytes {
			for _, turned := range [][]byte{x.Bytes[:i], slices.Concat(x.Bytes[:i], []byte{x.Bytes[i] ^ 1<<(i%8)}, x.Bytes[i+1:])} {
				g := f.Fork()
				replace(t, g, x.Name, turned)
				d, e := lsm.Open(g, small())
				if e != api.OK {
					want(t, "Open", e, api.ErrDamaged)
					want(t, "an engine", d == nil, true)
					damaged++
					continue
				}
				want(t, "not a table", strings.HasPrefix(x.Name, "table-"), false)
				want(t, "Right", d.Right(), api.OK)
			}
		}
	}
	want(t, "damaged", damaged > 500, true)
}
