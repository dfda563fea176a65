package vfs_test

import (
	"maps"
	"math/rand"
	"slices"
	"strconv"
	"strings"
	"testing"

	"atrium/api"
	"atrium/vfs"
)

// disk is what the chapter says, told another way: it keeps the whole directory as it was behind each pending operation, as numbers of files.
type disk struct {
	capacity int
	dirs     []map[string]int // what lasts, and behind each pending operation
	bytes    []string         // by the files' numbers
	synced   []int
	faults   []api.Fault // their Nths count down
	ops      [8]int
	failed   int
	power    int
}

func newDisk(capacity int) *disk {
	return &disk{capacity: capacity, dirs: []map[string]int{{}}, power: -1}
}

func (d *disk) fork() *disk {
	g := *d
	g.dirs, g.bytes, g.synced, g.faults = slices.Clone(d.dirs), slices.Clone(d.bytes), slices.Clone(d.synced), slices.Clone(d.faults)
	return &g
}

func (d *disk) seen() map[string]int { return d.dirs[len(d.dirs)-1] }

func (d *disk) left() int {
	n := d.capacity
	for _, id := range d.seen() {
		n -= len(d.bytes[id])
	}
	return n
}

// turn is the directory behind one more pending operation.
func (d *disk) turn(how func(dir map[string]int)) {
	dir := maps.Clone(d.seen())
	how(dir)
	d.dirs = append(d.dirs, dir)
}

// attempt does an operation that was not refused, or lets it fail.
func (d *disk) attempt(op int, do func()) api.Errno {
	if op != api.OpRead && d.power == 0 {
		return api.OK
	}
	if op != api.OpRead && d.power > 0 {
		d.power--
	}
	d.ops[op]++
	e := api.OK
	for i := range d.faults {
		if d.faults[i].Op != op {
			continue
		}
		d.faults[i].Nth--
		if d.faults[i].Nth == 0 {
			e = api.ErrIO
			d.failed++
			if d.faults[i].Kind == api.FaultClean {
				do = func() {}
			}
		}
	}
	do()
	return e
}

func (d *disk) crash(c api.Crash) api.Errno {
	if c.Dir < 0 || c.Dir >= len(d.dirs) || slices.ContainsFunc(c.Keep, func(n int) bool { return n < 0 }) {
		return api.ErrArg
	}
	dir := d.dirs[c.Dir]
	for i, name := range slices.Sorted(maps.Keys(dir)) {
		id, keep := dir[name], 0
		if i < len(c.Keep) {
			keep = c.Keep[i]
		}
		keep = min(keep, len(d.bytes[id])-d.synced[id])
		d.synced[id] += keep
		d.bytes[id] = d.bytes[id][:d.synced[id]]
	}
	d.dirs, d.faults, d.power = []map[string]int{dir}, nil, -1
	return api.OK
}

// text tells all that can be asked.
func (d *disk) text() string {
	var l []string
	for _, name := range slices.Sorted(maps.Keys(d.seen())) {
		id := d.seen()[name]
		l = append(l, name+"="+d.bytes[id][:d.synced[id]]+"|"+d.bytes[id][d.synced[id]:])
	}
	return strings.Join(l, " ")
}

func sameDisk(t *testing.T, f *vfs.FS, d *disk) bool {
	t.Helper()
	want(t, "files", text(f), d.text())
	want(t, "List", strings.Join(f.List(), " "), strings.Join(slices.Sorted(maps.Keys(d.seen())), " "))
	want(t, "Pending", f.Pending(), len(d.dirs)-1)
	want(t, "Left", f.Left(), d.left())
	want(t, "Off", f.Off(), d.power == 0)
	want(t, "Ops", f.Ops(), api.Ops{Creates: d.ops[1], Appends: d.ops[2], Syncs: d.ops[3], Renames: d.ops[4], Removes: d.ops[5], SyncDirs: d.ops[6], Reads: d.ops[7], Failed: d.failed})
	return !t.Failed()
}

// play is a file system and a disk to which the same is done.
type play struct {
	t *testing.T
	r *rand.Rand
	f *vfs.FS
	d *disk
}

func (p *play) name() string {
	return []string{"a", "b", "c", "d", "e", "E"}[p.r.Intn(6)]
}

func (p *play) told(what string, got, should api.Errno) {
	p.t.Helper()
	want(p.t, what, got, should)
}

func (p *play) create() {
	name, d := p.name(), p.d
	should := api.ErrName
	if _, there := d.seen()[name]; there {
		should = api.ErrExist
	} else if name != "E" {
		should = d.attempt(api.OpCreate, func() {
			d.turn(func(dir map[string]int) { dir[name] = len(d.bytes) })
			d.bytes, d.synced = append(d.bytes, ""), append(d.synced, 0)
		})
	}
	p.told("Create "+name, p.f.Create(name), should)
}

func (p *play) append() {
	name, d := p.name(), p.d
	s := strings.Repeat(strconv.Itoa(p.r.Intn(10)), p.r.Intn(5))
	should := api.ErrNone
	if id, there := d.seen()[name]; there && len(s) > d.left() {
		should = api.ErrFull
	} else if there {
		should = d.attempt(api.OpAppend, func() { d.bytes[id] += s })
	}
	p.told("Append "+name, p.f.Append(name, []byte(s)), should)
}

func (p *play) sync() {
	name, d := p.name(), p.d
	should := api.ErrNone
	if id, there := d.seen()[name]; there {
		should = d.attempt(api.OpSync, func() { d.synced[id] = len(d.bytes[id]) })
	}
	p.told("Sync "+name, p.f.Sync(name), should)
}

func (p *play) rename() {
	old, to, d := p.name(), p.name(), p.d
	should := api.ErrNone
	if id, there := d.seen()[old]; there && to == "E" {
		should = api.ErrName
	} else if there {
		should = d.attempt(api.OpRename, func() {
			d.turn(func(dir map[string]int) {
				delete(dir, old)
				dir[to] = id
			})
		})
	}
	p.told("Rename "+old+" "+to, p.f.Rename(old, to), should)
}

func (p *play) remove() {
	name, d := p.name(), p.d
	should := api.ErrNone
	if _, there := d.seen()[name]; there {
		should = d.attempt(api.OpRemove, func() { d.turn(func(dir map[string]int) { delete(dir, name) }) })
	}
	p.told("Remove "+name, p.f.Remove(name), should)
}

func (p *play) syncDir() {
	d := p.d
	should := d.attempt(api.OpSyncDir, func() { d.dirs = d.dirs[len(d.dirs)-1:] })
	p.told("SyncDir", p.f.SyncDir(), should)
}

func (p *play) read() {
	name, d, offset, n := p.name(), p.d, p.r.Intn(6)-1, p.r.Intn(6)-1
	should, s := api.ErrNone, ""
	if id, there := d.seen()[name]; there {
		should = api.ErrRange
		if offset >= 0 && n >= 0 && offset+n <= len(d.bytes[id]) {
			should = d.attempt(api.OpRead, func() { s = d.bytes[id][offset : offset+n] })
		}
	}
	if should != api.OK {
		s = ""
	}
	b, e := p.f.Read(name, offset, n)
	p.told("Read "+name, e, should)
	want(p.t, "Read "+name, string(b), s)
}

func (p *play) fail() {
	var l []api.Fault
	for op := api.OpCreate; op <= api.OpRead; op++ {
		if p.r.Intn(3) == 0 {
			l = append(l, api.Fault{Op: op, Nth: 1 + p.r.Intn(3), Kind: 1 + p.r.Intn(2)})
		}
	}
	p.d.faults = slices.Clone(l)
	p.told("Fail", p.f.Fail(l), api.OK)
}

func (p *play) stop() {
	n := p.r.Intn(6) - 3
	if n < 0 {
		n = -1
	}
	p.d.power = n
	p.f.Stop(n)
}

// draw is a crash that may be, most of the time.
func (p *play) draw() api.Crash {
	c := api.Crash{Dir: p.r.Intn(len(p.d.dirs))}
	for range p.r.Intn(6) {
		c.Keep = append(c.Keep, p.r.Intn(6))
	}
	if p.r.Intn(10) == 0 {
		c.Dir = []int{-1, len(p.d.dirs)}[p.r.Intn(2)]
	}
	if p.r.Intn(10) == 0 {
		c.Keep = append(c.Keep, -1)
	}
	return c
}

func (p *play) crash() {
	c := p.draw()
	p.told("Crash", p.f.Crash(c), p.d.crash(c))
}

// fork goes on with a fork, and sees to it that what is done to the one is not done to the other.
func (p *play) fork() {
	f, d := p.f, p.d.fork()
	p.f = f.Fork()
	for range 5 {
		p.step()
	}
	sameDisk(p.t, f, d)
}

func (p *play) step() {
	steps := []func(){p.create, p.create, p.append, p.append, p.append, p.sync, p.rename, p.rename, p.remove, p.read, p.read, p.syncDir}
	rare := []func(){p.fail, p.stop, p.crash, p.fork}
	if p.r.Intn(12) == 0 {
		rare[p.r.Intn(len(rare))]()
		return
	}
	steps[p.r.Intn(len(steps))]()
}

func TestPlays(t *testing.T) { // P1.1 to P1.6, whatever is done in whatever order
	for seed := range int64(400) {
		r := rand.New(rand.NewSource(seed))
		capacity := r.Intn(30)
		p := &play{t, r, open(t, capacity), newDisk(capacity)}
		for i := range 80 {
			p.step()
			if !sameDisk(t, p.f, p.d) {
				t.Fatal("seed", seed, "step", i)
			}
		}
	}
}

// history is a file system each of whose files begins with a letter of its own that is synced at once, and what the chapter's last section speaks of.
type history struct {
	t      *testing.T
	f      *vfs.FS
	made   int
	whole  map[string]string         // by a file's letter: all bytes that it has, or had
	had    map[string]map[string]int // by a name: the letters of files that it had since the last SyncDir (none: an empty one)
	stays  map[string]string         // by a name that lasts: the bytes that must be there
	letter map[string]string         // by a name, as it is seen
}

var fileNames = []string{"a", "b", "c"}

func newHistory(t *testing.T) *history {
	h := &history{t: t, f: open(t, 1000), whole: map[string]string{}, stays: map[string]string{}, letter: map[string]string{}}
	h.begin()
	return h
}

func (h *history) begin() {
	h.had = map[string]map[string]int{}
	for _, name := range fileNames {
		h.had[name] = map[string]int{}
	}
	h.note()
}

func (h *history) note() {
	for _, name := range fileNames {
		h.had[name][h.letter[name]] = 1
	}
}

func (h *history) step(r *rand.Rand) {
	name, to := fileNames[r.Intn(3)], fileNames[r.Intn(3)]
	x, there := h.letter[name]
	switch k := r.Intn(12); {
	case !there:
		x = string(rune('A' + h.made%26))
		h.made++
		put(h.t, h.f, name, x)
		ok(h.t, h.f.Sync(name))
		h.letter[name], h.whole[x] = x, x
	case k < 4:
		ok(h.t, h.f.Append(name, []byte("12")))
		h.whole[x] += "12"
	case k < 6:
		ok(h.t, h.f.Sync(name))
		if _, lasts := h.stays[name]; lasts {
			h.stays[name] = h.whole[x]
		}
	case k < 8 && name != to:
		ok(h.t, h.f.Rename(name, to))
		delete(h.letter, name)
		h.letter[to] = x
		delete(h.stays, name)
		delete(h.stays, to)
	case k < 10:
		ok(h.t, h.f.Remove(name))
		delete(h.letter, name)
		delete(h.stays, name)
	default:
		h.syncDir()
	}
	h.note()
}

func (h *history) syncDir() {
	ok(h.t, h.f.SyncDir())
	h.begin()
	h.stays = map[string]string{}
	for _, x := range h.f.Files() {
		h.stays[x.Name] = string(x.Bytes[:x.Synced])
	}
}

// check sees to it that what stands behind a crash may be.
func (h *history) check(c api.Crash) {
	g := h.f.Fork()
	ok(h.t, g.Crash(c))
	found := map[string]string{}
	for _, x := range g.Files() {
		found[x.Name] = string(x.Bytes)
	}
	for name, s := range h.stays {
		if !strings.HasPrefix(found[name], s) {
			h.t.Error("P1.7", name, found[name], s)
		}
	}
	for _, name := range fileNames {
		x := ""
		if s := found[name]; s != "" {
			x = s[:1]
		}
		if h.had[name][x] == 0 {
			h.t.Error("P1.9", name, x)
		}
		if !strings.HasPrefix(h.whole[x], found[name]) {
			h.t.Error("P1.8", name, found[name], h.whole[x])
		}
	}
}

func (h *history) checkAllKept() {
	g := h.f.Fork()
	ok(h.t, g.Crash(api.Crash{Dir: g.Pending(), Keep: []int{1000, 1000, 1000}}))
	want(h.t, "P1.10: List", g.List(), h.f.List())
	for _, name := range h.f.List() {
		n, _ := h.f.Size(name)
		b1, _ := h.f.Read(name, 0, n)
		m, _ := g.Size(name)
		b2, _ := g.Read(name, 0, m)
		want(h.t, "P1.10: bytes", string(b2), string(b1))
	}
	want(h.t, "P1.10: Left", g.Left(), h.f.Left())
}

func TestWhatFollows(t *testing.T) { // P1.7 to P1.10
	for seed := range int64(60) {
		r := rand.New(rand.NewSource(seed))
		h := newHistory(t)
		for i := range 26 {
			h.step(r)
			for dir := range h.f.Pending() + 1 {
				for _, keep := range [][]int{nil, {1, 1, 1}, {0, 3}, {100, 100, 100}} {
					h.check(api.Crash{Dir: dir, Keep: keep})
				}
			}
			h.checkAllKept()
			if t.Failed() {
				t.Fatal("seed", seed, "step", i)
			}
		}
	}
}
