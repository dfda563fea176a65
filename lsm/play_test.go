package lsm_test

import (
	"fmt"
	"math/rand"
	"slices"
	"strconv"
	"strings"
	"testing"

	"atrium/api"
	"atrium/lsm"
	"atrium/pick"
	"atrium/vfs"
)

// draw is a batch of few keys.
func draw(r *rand.Rand) []api.Write {
	var l []api.Write
	for range 1 + r.Intn(4) {
		key := fmt.Sprint("k", r.Intn(12))
		if r.Intn(3) == 0 {
			l = append(l, gone(key))
			continue
		}
		l = append(l, put(key, strings.Repeat(string(rune('a'+r.Intn(26))), r.Intn(20))))
	}
	return l
}

// options is some that may be.
func options(r *rand.Rand) api.Options {
	return api.Options{
		Shape: api.Shape{Block: 64 + r.Intn(200), Restart: 1 + r.Intn(5), Bits: 1 + r.Intn(12)},
		Mem:   1 + r.Intn(300), Zero: 1 + r.Intn(4), Base: 1 + r.Intn(1500), Fan: 2 + r.Intn(3),
	}
}

// player is an engine, and what it should have.
type player struct {
	t     *testing.T
	r     *rand.Rand
	d     *lsm.DB
	m     told
	kept  []uint64
	files map[string]int // all names with a number that there were
	most  int            // the greatest number of them
}

// numbers is that files that came have numbers above those of all that were there ahead, each its own.
func (p *player) numbers() {
	above := p.most
	fresh := map[int]int{}
	for _, name := range p.d.FS().List() {
		_, digits, is := strings.Cut(name, "-")
		if _, was := p.files[name]; was || !is {
			continue
		}
		n, _ := strconv.Atoi(digits)
		want(p.t, name+": its number is new", n > above, true)
		fresh[n]++
		want(p.t, name+": its number is its own", fresh[n], 1)
		p.files[name] = n
		p.most = max(p.most, n)
	}
}

func (p *player) step() {
	switch n := p.r.Intn(20); {
	case n < 8:
		l := draw(p.r)
		seq, e := p.d.Write(l)
		want(p.t, "Write", e, api.OK)
		p.m = p.m.with(l)
		want(p.t, "its sequence", seq, uint64(len(p.m)))
	case n < 9:
		var l [][]api.Write
		for range p.r.Intn(4) {
			l = append(l, draw(p.r))
			p.m = p.m.with(l[len(l)-1])
		}
		_, e := p.d.WriteAll(l)
		want(p.t, "WriteAll", e, api.OK)
	case n < 10:
		p.d.Freeze()
	case n < 13:
		_, e := p.d.Flush()
		want(p.t, "Flush", e, api.OK)
	case n < 16:
		_, e := p.d.Compact()
		want(p.t, "Compact", e, api.OK)
	case n < 17:
		p.kept = append(p.kept, p.d.Snap())
		want(p.t, "Snap", p.kept[len(p.kept)-1], uint64(len(p.m)))
	case n < 19 && len(p.kept) > 0:
		i := p.r.Intn(len(p.kept))
		want(p.t, "Release", p.d.Release(p.kept[i]), api.OK)
		p.kept = slices.Delete(p.kept, i, i+1)
	case n == 19 && p.r.Intn(4) == 0:
		p.d = mustOpen(p.t, p.d.FS(), options(p.r))
		p.kept = nil
	}
}

// check is that all is told that can be read.
func (p *player) check() {
	last := uint64(len(p.m))
	oldest := last
	for _, seq := range p.kept {
		oldest = min(oldest, seq)
	}
	want(p.t, "Seq", p.d.Info().Seq, last)
	want(p.t, "Oldest", p.d.Info().Oldest, oldest)
	for seq := oldest; seq <= last; seq++ {
		want(p.t, fmt.Sprint("at ", seq), text(p.d, seq), p.m.text("", "", seq))
		key := fmt.Sprint("k", p.r.Intn(12))
		v, is := p.d.Get(key, seq)
		should, there := p.m.at(seq)[key]
		want(p.t, "Get", v, should)
		want(p.t, "is there", is, there)
	}
	from, to := fmt.Sprint("k", p.r.Intn(12)), fmt.Sprint("k", p.r.Intn(12))
	want(p.t, "a range", scanned(p.d, from, to, last), p.m.text(from, to, last))
}

func TestPlays(t *testing.T) { // P13.4, P13.5, P13.8; no number is given twice
	r := rand.New(rand.NewSource(1))
	for range 150 {
		p := &player{t: t, r: r, d: roomy(t, options(r)), files: map[string]int{}}
		for i := range 150 {
			p.step()
			p.numbers()
			if i%5 == 0 {
				p.check()
			}
			if t.Failed() {
				t.FailNow()
			}
		}
		p.check()
		wantFiles(t, p.d)
	}
}

func TestPlaysRest(t *testing.T) { // P13.11
	r := rand.New(rand.NewSource(2))
	for range 60 {
		o := options(r)
		d := roomy(t, o)
		var m told
		for range 100 {
			l := draw(r)
			d.Write(l)
			m = m.with(l)
			if r.Intn(4) == 0 {
				d.Flush()
			}
		}
		for d.Info().Mem+d.Info().Frozen > 0 {
			d.Freeze()
			mustFlush(t, d)
		}
		rest(t, d)
		want(t, "Rests", pick.Rests(d.State().Version, o), true)
		want(t, "what is there", now(d), m.text("", "", 100))
	}
}

// script is what an engine does in a play with a crash: each batch is a list of words; the others are calls.
func script() []any {
	return []any{
		[]string{"a=1", "b=1"}, []string{"b-", "c=2"}, "freeze", []string{"c=3", "a=3"}, "flush", []string{"d=4"}, "freeze", "flush",
		"compact", []string{"a-", "e=5"}, "all", []string{"e=8"}, "freeze", []string{"f=9"}, "flush", []string{"a=10"}, "freeze", "flush", "compact", []string{"b=11"},
	}
}

// result is what was begun, and what was told, ahead of the power's going.
type result struct {
	m     told
	told  int // batches whose Write had told a sequence
	begun int
}

// perform does the script on files, until the power is gone.
func perform(t *testing.T, f *vfs.FS, l []any) result {
	t.Helper()
	var x result
	d, e := lsm.Open(f, small())
	if e != api.OK || f.Off() {
		return x
	}
	for _, act := range l {
		var batches [][]api.Write
		switch v := act.(type) {
		case []string:
			batches = [][]api.Write{batch(v...)}
			x.m = x.m.with(batches[0])
			x.begun++
			_, e = d.Write(batches[0])
		case string:
			switch v {
			case "all":
				batches = [][]api.Write{batch("a=6", "b=6"), batch("b-", "g=7")}
				x.m = x.m.with(batches[0]).with(batches[1])
				x.begun += 2
				_, e = d.WriteAll(batches)
			case "freeze":
				e = d.Freeze()
			case "flush":
				_, e = d.Flush()
			case "compact":
				_, e = d.Compact()
			}
		}
		if f.Off() {
			return x
		}
		want(t, fmt.Sprint(act), e, api.OK)
		x.told += len(batches)
	}
	return x
}

// crashes goes over what a crash may keep: each number of the directory's operations, and of the bytes that do not last none, one, half, all, of all files or of one alone.
func crashes(f *vfs.FS) []api.Crash {
	var l []api.Crash
	for dir := range f.Pending() + 1 {
		probe := f.Fork()
		probe.Crash(api.Crash{Dir: dir, Keep: slices.Repeat([]int{1 << 20}, api.MaxFiles)})
		most := probe.Files()
		probe = f.Fork()
		probe.Crash(api.Crash{Dir: dir})
		l = append(l, api.Crash{Dir: dir})
		for i, x := range probe.Files() {
			loose := len(most[i].Bytes) - len(x.Bytes)
			for _, keep := range []int{1, loose / 2, loose - 1, loose} {
				if keep > 0 {
					one := make([]int, i+1)
					one[i] = keep
					l = append(l, api.Crash{Dir: dir, Keep: one})
				}
			}
		}
		l = append(l, api.Crash{Dir: dir, Keep: slices.Repeat([]int{1 << 20}, len(most))})
	}
	return l
}

// wantPrefix is that an opening finds what was there behind some of the batches: those that were told, perhaps more of those that had begun.
func wantPrefix(t *testing.T, what string, f *vfs.FS, x result) {
	t.Helper()
	d := mustOpen(t, f, small())
	seq := int(d.Info().Seq)
	want(t, what+": none is lost that was told", seq >= x.told, true)
	want(t, what+": none is more than had begun", seq <= x.begun, true)
	want(t, what, now(d), x.m.text("", "", uint64(seq)))
	wantFiles(t, d)
	want(t, what+": the next one", mustWrite(t, d, "z=1"), uint64(seq+1))
	if t.Failed() {
		t.FailNow()
	}
}

func TestCrashes(t *testing.T) { // P13.9, P13.10: at each operation, and each choice of what persists
	plays := 0
	for stop := 0; ; stop++ {
		f := newDisk(t, 1<<16)
		f.Stop(stop)
		x := perform(t, f, script())
		if !f.Off() {
			want(t, "all of the script", x.told, 11)
			break
		}
		for _, c := range crashes(f) {
			g := f.Fork()
			want(t, "Crash", g.Crash(c), api.OK)
			wantPrefix(t, fmt.Sprint("stopped behind ", stop, ", kept ", c), g, x)
			plays++
		}
	}
	want(t, "plays", plays > 300, true)
}

func TestCrashesInOpen(t *testing.T) { // P13.9: behind a crash in the script a second one, at each operation of the opening
	r := rand.New(rand.NewSource(3))
	for stop := 0; ; stop += 3 {
		f := newDisk(t, 1<<16)
		f.Stop(stop)
		x := perform(t, f, script())
		if !f.Off() {
			break
		}
		all := crashes(f)
		for range 3 {
			g := f.Fork()
			c := all[r.Intn(len(all))]
			want(t, "Crash", g.Crash(c), api.OK)
			probe := mustOpen(t, g.Fork(), small()) // what is found now is found from now on
			found := result{m: x.m, told: int(probe.Info().Seq), begun: int(probe.Info().Seq)}
			for second := 0; ; second++ {
				h := g.Fork()
				h.Stop(second)
				lsm.Open(h, small())
				if !h.Off() {
					break
				}
				for _, c := range crashes(h) {
					last := h.Fork()
					want(t, "Crash", last.Crash(c), api.OK)
					wantPrefix(t, fmt.Sprint("stopped behind ", stop, " and ", second, ", kept ", c), last, found)
				}
			}
		}
	}
}

func TestCrashPlays(t *testing.T) { // P13.9, P13.10: life behind life, with faults, stops, crashes as they come
	r := rand.New(rand.NewSource(4))
	for range 500 {
		f := newDisk(t, 1<<20)
		x := result{}
		for range 6 {
			if r.Intn(2) == 0 {
				f.Stop(r.Intn(120))
			}
			for range 1 + r.Intn(3) { // openings without a crash between
				x = playLife(t, r, f, x)
			}
			keep := make([]int, len(f.List())+40)
			for i := range keep {
				keep[i] = r.Intn(3) * r.Intn(120)
			}
			want(t, "Crash", f.Crash(api.Crash{Dir: r.Intn(f.Pending() + 1), Keep: keep}), api.OK)
			x = found(t, mustOpen(t, f.Fork(), small()), x)
		}
	}
}

// found is that an engine has what was there behind some of the batches, in order: what can be found from now on is just that.
func found(t *testing.T, d *lsm.DB, x result) result {
	t.Helper()
	seq := int(d.Info().Seq)
	want(t, "none is lost that was told", seq >= x.told, true)
	want(t, "none is more than had begun", seq <= x.begun, true)
	want(t, "what is found", now(d), x.m.text("", "", uint64(seq)))
	if t.Failed() {
		t.FailNow()
	}
	return result{m: x.m[:seq], told: seq, begun: seq}
}

// playLife opens an engine, and does something, till the power is gone, something fails, or it is enough.
func playLife(t *testing.T, r *rand.Rand, f *vfs.FS, x result) result {
	t.Helper()
	f.Fail(nil)
	for range r.Intn(3) {
		f.Fail([]api.Fault{{Op: 1 + r.Intn(7), Nth: 1 + r.Intn(12), Kind: 1 + r.Intn(2)}})
	}
	d, e := lsm.Open(f, options(r))
	if e != api.OK || f.Off() {
		return x
	}
	x = found(t, d, x)
	for range r.Intn(60) {
		switch r.Intn(6) {
		case 0:
			_, e = d.Flush()
		case 1:
			_, e = d.Compact()
		case 2:
			e = d.Freeze()
		default:
			l := draw(r)
			if _, e = d.Write(l); e != api.ErrFull {
				x.m = x.m.with(l)
				x.begun = len(x.m)
			}
			if e == api.OK && !f.Off() {
				x.told = len(x.m)
			}
		}
		if f.Off() || d.Info().Stopped {
			return x
		}
		if e != api.OK && e != api.ErrFull {
			t.Fatal("refused", e)
		}
	}
	return x
}

// moved is the files on a disk with room.
func moved(t *testing.T, f *vfs.FS) *vfs.FS {
	t.Helper()
	g := newDisk(t, api.MaxDisk)
	for _, x := range f.Files() {
		lay(t, g, x.Name, x.Bytes)
	}
	return g
}

func TestCrashPlaysTight(t *testing.T) { // P13.2, P13.9: on disks with little room: what is not opened there is opened on a larger one
	r := rand.New(rand.NewSource(6))
	opened, refused := 0, 0
	for range 400 {
		f := newDisk(t, 300+r.Intn(3000))
		x := result{}
		for range 8 {
			if r.Intn(2) == 0 {
				f.Stop(r.Intn(60))
			}
			for range 1 + r.Intn(2) {
				x = playLife(t, r, f, x)
			}
			keep := make([]int, len(f.List())+40)
			for i := range keep {
				keep[i] = r.Intn(3) * r.Intn(120)
			}
			want(t, "Crash", f.Crash(api.Crash{Dir: r.Intn(f.Pending() + 1), Keep: keep}), api.OK)
			x = found(t, mustOpen(t, moved(t, f), small()), x)
			d, e := lsm.Open(f.Fork(), small())
			if e == api.OK {
				found(t, d, x)
				opened++
			} else {
				want(t, "Open", e, api.ErrFull)
				refused++
			}
		}
	}
	want(t, "some were opened, some refused", opened > 500 && refused > 100, true)
}

func TestFullDisk(t *testing.T) { // P13.3, P13.6, P13.8: on disks that become full nothing is lost, and all is read
	r := rand.New(rand.NewSource(5))
	refused := 0
	for capacity := 100; capacity < 6000; capacity += 97 {
		f := newDisk(t, capacity)
		d, e := lsm.Open(f, options(r))
		if e == api.ErrFull {
			want(t, "a small disk", len(f.List()), 0)
			continue
		}
		want(t, "Open", e, api.OK)
		var m told
		for range 200 {
			l := draw(r)
			was := standing(d)
			_, e := d.Write(l)
			if e == api.OK {
				m = m.with(l)
			} else {
				want(t, "Write", e, api.ErrFull)
				want(t, "nothing has changed", standing(d), was)
				refused++
			}
			if r.Intn(2) == 0 {
				was := standing(d)
				if _, e := d.Flush(); e != api.OK {
					want(t, "Flush", e, api.ErrFull)
					want(t, "nothing has changed", standing(d), was)
				}
				was = standing(d)
				if _, e := d.Compact(); e != api.OK {
					want(t, "Compact", e, api.ErrFull)
					want(t, "nothing has changed", standing(d), was)
				}
			}
			want(t, "what is there", now(d), m.text("", "", uint64(len(m))))
			want(t, "Right", d.Right(), api.OK)
		}
		want(t, "Seq", d.Info().Seq, uint64(len(m)))
		wantFiles(t, d)
	}
	want(t, "some were refused", refused > 1000, true)
}
