package sched_test

import (
	"math"
	"reflect"
	"slices"
	"testing"

	"atrium/api"
	"atrium/sched"
)

// want fails the test, if what was told is not what should be; nil and the empty list are the same.
func want[T any](t *testing.T, what string, got, should T) {
	t.Helper()
	g, s := reflect.ValueOf(got), reflect.ValueOf(should)
	if g.Kind() == reflect.Slice && g.Len() == 0 && s.Len() == 0 {
		return
	}
	if !reflect.DeepEqual(got, should) {
		t.Errorf("%s: %v, not %v", what, got, should)
	}
}

// wantStep holds a step's answer against what should be.
func wantStep(t *testing.T, what string, n int, ok bool, shouldN int, should bool) {
	t.Helper()
	if n != shouldN || ok != should {
		t.Errorf("%s: %v %v, not %v %v", what, n, ok, shouldN, should)
	}
}

// loop is a loop of that timing with these tasks.
func loop(t *testing.T, timing api.Timing, tasks ...sched.Task) *sched.Loop {
	t.Helper()
	l, e := sched.New(timing)
	if e != api.OK || l == nil {
		t.Fatal("New", e)
	}
	for i, task := range tasks {
		if n, e := l.Add(task); n != i || e != api.OK {
			t.Fatal("Add", i, n, e)
		}
	}
	return l
}

// moves is a task that tells these moves one by one, and goes on behind the last; it counts its steps.
type moves struct {
	list  []api.Move
	steps int
}

func (m *moves) Step(e *sched.Env) api.Move {
	m.steps++
	if m.steps <= len(m.list) {
		return m.list[m.steps-1]
	}
	return api.Move{}
}

// look is a task that looks at its loop within each step.
type look struct {
	l     *sched.Loop
	steps []int
	nows  []uint64
	ready [][]int
	env   *sched.Env
}

func (k *look) Step(e *sched.Env) api.Move {
	k.steps = append(k.steps, k.l.Steps())
	k.nows = append(k.nows, k.l.Now(), e.Now())
	k.ready = append(k.ready, k.l.Ready())
	k.env = e
	return api.Move{}
}

// drawer is a task that draws and looks at the clock in each step, and goes on.
type drawer struct {
	draws []uint64
	nows  []uint64
}

func (d *drawer) Step(e *sched.Env) api.Move {
	d.draws = append(d.draws, e.Draw())
	d.nows = append(d.nows, e.Now())
	return api.Move{}
}

func acts(l ...api.Act) *sched.Acts { return sched.NewActs(l) }

func act(kind, n int) api.Act { return api.Act{Kind: kind, N: n} }

func TestCheck(t *testing.T) { // P3.1
	full, over := make([]int, api.MaxPicks), make([]int, api.MaxPicks+1)
	draws, overDraws := make([]uint64, api.MaxPicks), make([]uint64, api.MaxPicks+1)
	for _, x := range []struct {
		what   string
		timing api.Timing
		should api.Errno
	}{
		{"nothing", api.Timing{}, api.OK},
		{"empty lists", api.Timing{Picks: []int{}, Ticks: []int{}, Draws: []uint64{}}, api.OK},
		{"full", api.Timing{Picks: full, Ticks: full, Draws: draws}, api.OK},
		{"picks over", api.Timing{Picks: over}, api.ErrLong},
		{"ticks over", api.Timing{Ticks: over}, api.ErrLong},
		{"draws over", api.Timing{Draws: overDraws}, api.ErrLong},
		{"great picks", api.Timing{Picks: []int{0, 1, 63, 64, math.MaxInt}}, api.OK},
		{"great draws", api.Timing{Draws: []uint64{0, 1, math.MaxUint64}}, api.OK},
		{"ticks at the ends", api.Timing{Ticks: []int{0, 1<<31 - 1, 0}}, api.OK},
		{"pick -1", api.Timing{Picks: []int{-1}}, api.ErrArg},
		{"last pick below 0", api.Timing{Picks: []int{0, 1, math.MinInt}}, api.ErrArg},
		{"tick -1", api.Timing{Ticks: []int{-1}}, api.ErrArg},
		{"tick 2^31", api.Timing{Ticks: []int{1 << 31}}, api.ErrArg},
		{"last tick below 0", api.Timing{Ticks: []int{0, 0, math.MinInt}}, api.ErrArg},
		{"last tick too great", api.Timing{Ticks: []int{0, 0, math.MaxInt}}, api.ErrArg},
		{"both ticks and picks wrong", api.Timing{Picks: []int{-1}, Ticks: []int{-1}}, api.ErrArg},
		{"long ahead of a wrong pick", api.Timing{Picks: []int{-1}, Draws: overDraws}, api.ErrLong},
		{"long ahead of a wrong tick", api.Timing{Picks: over, Ticks: []int{-1}}, api.ErrLong},
		{"long, and wrong in itself", api.Timing{Ticks: append([]int{-1}, over...)}, api.ErrLong},
	} {
		want(t, x.what, sched.Check(x.timing), x.should)
		l, e := sched.New(x.timing)
		want(t, x.what+": New", e, x.should)
		want(t, x.what+": a loop", l != nil, x.should == api.OK)
	}
}

func TestNew(t *testing.T) { // P3.1
	l := loop(t, api.Timing{Picks: []int{3}, Ticks: []int{7}, Draws: []uint64{9}})
	want(t, "Ready", l.Ready(), nil)
	want(t, "Waits", l.Waits(), nil)
	want(t, "Now", l.Now(), 0)
	want(t, "Steps", l.Steps(), 0)
	want(t, "Done", l.Done(), true)
	n, ok := l.Next()
	wantStep(t, "Next", n, ok, 0, false)
	n, ok = l.Step(0)
	wantStep(t, "Step", n, ok, 0, false)
	want(t, "Run", l.Run(9), 0)
	want(t, "Now behind no step", l.Now(), 0)
}

func TestAdd(t *testing.T) { // P3.1
	l := loop(t, api.Timing{})
	n, e := l.Add(nil)
	want(t, "nil", e, api.ErrArg)
	want(t, "nil's number", n, 0)
	var all []int
	for i := range api.MaxTasks {
		n, e := l.Add(&moves{})
		want(t, "number", n, i)
		want(t, "Add", e, api.OK)
		all = append(all, i)
		want(t, "Ready", l.Ready(), all)
	}
	n, e = l.Add(&moves{})
	want(t, "one too many", e, api.ErrFull)
	want(t, "its number", n, 0)
	n, e = l.Add(nil)
	want(t, "nil where there is no room", e, api.ErrArg)
	want(t, "its number", n, 0)
	want(t, "all are ready", l.Ready(), all)
	want(t, "Waits", l.Waits(), make([]int, api.MaxTasks))
	want(t, "Done", l.Done(), false)
}

func TestAddKeepsItsPlaceBehindDoneTasks(t *testing.T) { // P3.1
	l := loop(t, api.Timing{}, acts(), &moves{list: []api.Move{{Wait: 3}}})
	want(t, "Run", l.Run(9), 2)
	n, e := l.Add(acts())
	want(t, "number", n, 2)
	want(t, "Add", e, api.OK)
	want(t, "Ready", l.Ready(), []int{2})
	want(t, "Waits", l.Waits(), []int{-1, 3, 0})
	for range api.MaxTasks - 3 {
		l.Add(acts())
	}
	_, e = l.Add(acts())
	want(t, "done ones count", e, api.ErrFull)
}

func TestOneTaskTwice(t *testing.T) { // P3.1, P3.4
	a := acts(act(api.ActNow, 0), act(api.ActNow, 0))
	l := loop(t, api.Timing{Picks: []int{0, 1}, Ticks: []int{1, 1}}, a, a)
	want(t, "Run", l.Run(9), 3)
	want(t, "Told", a.Told(), []uint64{1, 2})
	want(t, "Done", l.Done(), true)
}

func TestStepPicksAmongTheReady(t *testing.T) { // P3.2
	for ready := 1; ready <= 5; ready++ {
		for _, pick := range []int{0, 1, 2, 3, 4, 5, 6, 63, 64, 1000, math.MaxInt} {
			l := loop(t, api.Timing{}, &moves{list: []api.Move{{Wait: 1}}})
			for range ready {
				l.Add(&moves{})
			}
			l.Step(0)
			n, ok := l.Step(pick)
			wantStep(t, "Step", n, ok, 1+pick%ready, true)
		}
	}
}

func TestStepWithAPickBelowNought(t *testing.T) { // P3.2, R2
	m := &moves{}
	l := loop(t, api.Timing{Ticks: []int{5}}, &moves{list: []api.Move{{Wait: 1}}}, m)
	l.Step(0)
	for _, pick := range []int{-1, -2, math.MinInt} {
		n, ok := l.Step(pick)
		wantStep(t, "Step", n, ok, 0, false)
	}
	want(t, "no step of the task", m.steps, 0)
	want(t, "Steps", l.Steps(), 1)
	want(t, "Now", l.Now(), 5)
	want(t, "Waits", l.Waits(), []int{1, 0})
}

func TestStepWhereNoneIsReady(t *testing.T) { // P3.2: neither the clock nor the picks go on
	l := loop(t, api.Timing{Picks: []int{0, 1, 0}, Ticks: []int{2, 3, 4}}, &moves{list: []api.Move{{Wait: 8}}})
	l.Next()
	for range 3 {
		n, ok := l.Step(0)
		wantStep(t, "Step", n, ok, 0, false)
		n, ok = l.Next()
		wantStep(t, "Next", n, ok, 0, false)
		want(t, "Run", l.Run(5), 0)
	}
	want(t, "Now", l.Now(), 2)
	want(t, "Steps", l.Steps(), 1)
	l.Add(&moves{})
	l.Wake(8)
	n, ok := l.Next()
	wantStep(t, "the second pick is there yet", n, ok, 1, true)
	want(t, "Now", l.Now(), 5)
	n, ok = l.Next()
	wantStep(t, "the third one", n, ok, 0, true)
	want(t, "Now", l.Now(), 9)
}

func TestNextUsesPicksOnce(t *testing.T) { // P3.2, P3.6: 0 when they are used up
	l := loop(t, api.Timing{Picks: []int{2, 1, 5, 4, 3}}, &moves{}, &moves{}, &moves{})
	for i, should := range []int{2, 1, 2, 1, 0, 0, 0, 0} {
		n, ok := l.Next()
		if n != should || !ok {
			t.Error("step", i, n, ok)
		}
	}
}

func TestStepUsesNoPick(t *testing.T) { // P3.2
	l := loop(t, api.Timing{Picks: []int{2, 1}}, &moves{}, &moves{}, &moves{})
	n, ok := l.Step(0)
	wantStep(t, "Step", n, ok, 0, true)
	n, ok = l.Next()
	wantStep(t, "Next", n, ok, 2, true)
	n, ok = l.Step(-1)
	wantStep(t, "Step", n, ok, 0, false)
	n, ok = l.Next()
	wantStep(t, "Next", n, ok, 1, true)
	want(t, "Steps", l.Steps(), 3)
}

func TestRun(t *testing.T) { // P3.2
	for _, most := range []int{math.MinInt, -1, 0, 1, 4, 5, 6, 7, math.MaxInt} {
		a := acts(act(api.ActGo, 0), act(api.ActNow, 0), act(api.ActNow, 0))
		b := acts(act(api.ActGo, 0), act(api.ActNow, 0))
		l := loop(t, api.Timing{Picks: []int{1}, Ticks: []int{1, 1, 1, 1, 1, 1, 1}}, a, b)
		should := min(max(most, 0), 5)
		want(t, "Run", l.Run(most), should)
		want(t, "Steps", l.Steps(), should)
		want(t, "Now", l.Now(), uint64(should))
		want(t, "Done", l.Done(), should == 5)
	}
	l := loop(t, api.Timing{}, &moves{})
	want(t, "of a task without an end", l.Run(1000), 1000)
	want(t, "and on", l.Run(7), 7)
	want(t, "Steps", l.Steps(), 1007)
}

func TestRunStopsWhereAllWait(t *testing.T) { // P3.2
	l := loop(t, api.Timing{}, &moves{list: []api.Move{{}, {Wait: 4}, {Done: true}}})
	want(t, "Run", l.Run(10), 2)
	want(t, "Done", l.Done(), false)
	l.Wake(4)
	want(t, "Run", l.Run(10), 1)
	want(t, "Done", l.Done(), true)
	want(t, "Run", l.Run(10), 0)
}

func TestWake(t *testing.T) { // P3.3
	l := loop(t, api.Timing{Picks: []int{0, 0, 0, 0, 1}},
		&moves{list: []api.Move{{Wait: 1}}},
		&moves{list: []api.Move{{Wait: api.MaxChannel}}},
		&moves{list: []api.Move{{Wait: 1}}},
		&moves{list: []api.Move{{Done: true}}},
		&moves{}, &moves{})
	want(t, "none waits yet", l.Wake(1), 0)
	want(t, "Run", l.Run(5), 5)
	waits := []int{1, api.MaxChannel, 1, -1, 0, 0}
	want(t, "Waits", l.Waits(), waits)
	for _, channel := range []int{math.MinInt, -2, -1, 0, 2, api.MaxChannel - 1, api.MaxChannel + 1, math.MaxInt} {
		want(t, "Wake of another channel", l.Wake(channel), 0)
		want(t, "Waits", l.Waits(), waits)
	}
	want(t, "Wake 1", l.Wake(1), 2)
	want(t, "Waits", l.Waits(), []int{0, api.MaxChannel, 0, -1, 0, 0})
	want(t, "Wake 1 again", l.Wake(1), 0)
	want(t, "Wake of the last channel", l.Wake(api.MaxChannel), 1)
	want(t, "Waits", l.Waits(), []int{0, 0, 0, -1, 0, 0})
	want(t, "Ready", l.Ready(), []int{0, 1, 2, 4, 5})
	want(t, "a wake is no step", l.Steps(), 5)
}

func TestMoves(t *testing.T) { // P3.2: what a task tells, and what becomes of it
	for _, x := range []struct {
		what   string
		move   api.Move
		should int
	}{
		{"it goes on", api.Move{}, 0},
		{"channel 1", api.Move{Wait: 1}, 1},
		{"the last channel", api.Move{Wait: api.MaxChannel}, api.MaxChannel},
		{"behind the last channel", api.Move{Wait: api.MaxChannel + 1}, 0},
		{"below 0", api.Move{Wait: -1}, 0},
		{"far below 0", api.Move{Wait: math.MinInt}, 0},
		{"far too great", api.Move{Wait: math.MaxInt}, 0},
		{"done", api.Move{Done: true}, -1},
		{"done, and it waits", api.Move{Done: true, Wait: 5}, -1},
		{"done, and a wait that is none", api.Move{Done: true, Wait: 5000}, -1},
		{"it wakes its own channel", api.Move{Wait: 5, Wake: []int{5}}, 5},
		{"wakes of no channels", api.Move{Wake: []int{0, -1, 1025, math.MinInt}}, 0},
	} {
		m := &moves{list: []api.Move{x.move}}
		l := loop(t, api.Timing{}, m)
		n, ok := l.Next()
		wantStep(t, x.what, n, ok, 0, true)
		want(t, x.what, l.Waits(), []int{x.should})
		want(t, x.what+": Done", l.Done(), x.should == -1)
		want(t, x.what+": it is woken by its channel", l.Wake(5), map[bool]int{true: 1}[x.should == 5])
	}
}

func TestStepWakes(t *testing.T) { // P3.2: each channel of the list, all that wait there, also with Done
	for _, last := range []api.Move{
		{Wake: []int{3, 4, 3, 0, -1, 9}},
		{Wake: []int{4, 3}, Done: true},
		{Wake: []int{4, 3}, Wait: 3},
	} {
		l := loop(t, api.Timing{},
			&moves{list: []api.Move{{Wait: 3}}}, &moves{list: []api.Move{{Wait: 4}}},
			&moves{list: []api.Move{{Wait: 5}}}, &moves{list: []api.Move{{Wait: 3}}},
			&moves{list: []api.Move{{Done: true}}}, &moves{list: []api.Move{last}})
		want(t, "Run", l.Run(6), 6)
		own := 0
		if last.Done {
			own = -1
		} else if last.Wait > 0 {
			own = 3
		}
		want(t, "Waits", l.Waits(), []int{0, 0, 5, 0, -1, own})
	}
}

func TestClock(t *testing.T) { // P3.2, P3.7: ahead of the step, by the Ticks alone
	d := &drawer{}
	l := loop(t, api.Timing{Ticks: []int{3, 0, 1<<31 - 1, 1<<31 - 1}}, d)
	for i, should := range []uint64{3, 3, 1<<31 + 2, 1<<32 + 1, 1<<32 + 1, 1<<32 + 1} {
		l.Next()
		want(t, "Now", l.Now(), should)
		want(t, "the task's Now", d.nows[i], should)
		want(t, "Steps", l.Steps(), i+1)
	}
}

func TestClockAtItsMost(t *testing.T) { // P3.1, P3.7
	ticks := slices.Repeat([]int{1<<31 - 1}, api.MaxPicks)
	l := loop(t, api.Timing{Ticks: ticks}, &moves{})
	want(t, "Run", l.Run(api.MaxPicks+5), api.MaxPicks+5)
	want(t, "Now", l.Now(), api.MaxPicks*(1<<31-1))
}

func TestAllPicksAreUsed(t *testing.T) { // P3.1, P3.2
	picks := make([]int, api.MaxPicks)
	picks[api.MaxPicks-1] = 1
	second := &moves{}
	l := loop(t, api.Timing{Picks: picks}, &moves{}, second)
	l.Run(api.MaxPicks - 1)
	want(t, "ahead of the last pick", second.steps, 0)
	n, ok := l.Next()
	wantStep(t, "the last pick", n, ok, 1, true)
	n, ok = l.Next()
	wantStep(t, "behind it", n, ok, 0, true)
}

func TestDraws(t *testing.T) { // P3.2, words: all tasks draw from one list, then from Mix(1) on
	a, b := &drawer{}, &drawer{}
	l := loop(t, api.Timing{Picks: []int{0, 1, 1, 0, 1}, Draws: []uint64{8, 0, math.MaxUint64}}, a, b)
	l.Run(6)
	want(t, "the first one's", a.draws, []uint64{8, sched.Mix(1), sched.Mix(3)})
	want(t, "the second one's", b.draws, []uint64{0, math.MaxUint64, sched.Mix(2)})
	c := &drawer{}
	l = loop(t, api.Timing{}, c)
	l.Run(3)
	want(t, "without draws", c.draws, []uint64{sched.Mix(1), sched.Mix(2), sched.Mix(3)})
}

func TestAllDrawsAreDrawn(t *testing.T) { // P3.1
	draws := make([]uint64, api.MaxPicks)
	for i := range draws {
		draws[i] = uint64(i) * 3
	}
	d := &drawer{}
	l := loop(t, api.Timing{Draws: draws}, d)
	l.Run(api.MaxPicks + 1)
	want(t, "draws", d.draws, append(slices.Clone(draws), sched.Mix(1)))
}

func TestMix(t *testing.T) { // words; the numbers are those of SplitMix64's last three lines
	for _, x := range []struct{ x, should uint64 }{
		{0, 0},
		{1, 0x5692161D100B05E5},
		{2, 0xDBD238973A2B148A},
		{0x9E3779B97F4A7C15, 0xE220A8397B1DCDAF},
		{0x3C6EF372FE94F82A, 0x6E789E6AA1B965F4},
		{math.MaxUint64, 0xB4D055FCF2CBBD7B},
	} {
		want(t, "Mix", sched.Mix(x.x), x.should)
	}
}

func TestATaskSeesItsLoop(t *testing.T) { // words: the clock goes ahead of the step, the number of steps behind it
	k := &look{}
	l := loop(t, api.Timing{Ticks: []int{4, 5}}, k)
	k.l = l
	l.Run(3)
	want(t, "steps so far", k.steps, []int{0, 1, 2})
	want(t, "clock", k.nows, []uint64{4, 4, 9, 9, 9, 9})
	want(t, "it is ready till the step ends", k.ready, [][]int{{0}, {0}, {0}})
	want(t, "an Env that was kept sees the clock", k.env.Now(), 9)
	want(t, "and draws", k.env.Draw(), sched.Mix(1))
}

// nest is a task that does to its loop what it is told, within its step.
type nest struct {
	within func()
	move   api.Move
}

func (n *nest) Step(e *sched.Env) api.Move {
	n.within()
	return n.move
}

func TestATaskAddsAndWakes(t *testing.T) { // R1, P3.1, P3.3
	n := &nest{move: api.Move{Done: true}}
	l := loop(t, api.Timing{}, &moves{list: []api.Move{{Wait: 6}}}, n)
	n.within = func() {
		want(t, "Wake", l.Wake(6), 1)
		for i := 2; i < api.MaxTasks; i++ {
			k, e := l.Add(&moves{})
			want(t, "Add", e, api.OK)
			want(t, "number", k, i)
		}
	}
	l.Run(2)
	waits := make([]int, api.MaxTasks)
	waits[1] = -1
	want(t, "Waits", l.Waits(), waits)
}

func TestATaskStepsItsLoop(t *testing.T) { // R1: a step within a step ends, and each pick is used once
	n := &nest{move: api.Move{Done: true}}
	other := &moves{}
	l := loop(t, api.Timing{Picks: []int{0, 1, 1}}, n, other)
	n.within = func() {
		k, ok := l.Next()
		wantStep(t, "the inner step", k, ok, 1, true)
	}
	k, ok := l.Next()
	wantStep(t, "the outer step", k, ok, 0, true)
	want(t, "Steps", l.Steps(), 2)
	want(t, "Waits", l.Waits(), []int{-1, 0})
}

func TestNothing(t *testing.T) { // P3.3: of a nil Loop, and of a nil Env
	var l *sched.Loop
	n, e := l.Add(acts())
	want(t, "Add", e, api.ErrClosed)
	want(t, "its number", n, 0)
	n, e = l.Add(nil)
	want(t, "Add of nil", e, api.ErrClosed)
	want(t, "its number", n, 0)
	want(t, "Ready", l.Ready(), nil)
	for _, pick := range []int{-1, 0, 1} {
		n, ok := l.Step(pick)
		wantStep(t, "Step", n, ok, 0, false)
	}
	n, ok := l.Next()
	wantStep(t, "Next", n, ok, 0, false)
	want(t, "Run", l.Run(3), 0)
	want(t, "Run below 0", l.Run(-3), 0)
	want(t, "Wake", l.Wake(1), 0)
	want(t, "Now", l.Now(), 0)
	want(t, "Steps", l.Steps(), 0)
	want(t, "Waits", l.Waits(), nil)
	want(t, "Done", l.Done(), true)
	var v *sched.Env
	want(t, "an Env's Now", v.Now(), 0)
	want(t, "an Env's Draw", v.Draw(), 0)
	want(t, "again", v.Draw(), 0)
}

func TestDone(t *testing.T) { // P3.3
	l := loop(t, api.Timing{Picks: []int{1}}, &moves{list: []api.Move{{Wait: 2}, {Done: true}}}, acts())
	want(t, "at first", l.Done(), false)
	l.Next()
	want(t, "one is done", l.Done(), false)
	l.Next()
	want(t, "the other one waits", l.Done(), false)
	l.Wake(2)
	l.Next()
	want(t, "both are done", l.Done(), true)
	l.Add(acts())
	want(t, "one more came", l.Done(), false)
}

func TestWhatIsHandedInStays(t *testing.T) { // R3
	picks, ticks, draws := []int{1, 1, 1, 9}, []int{5, 6, 7, 9}, []uint64{1, 2, 3, 9}
	timing := api.Timing{Picks: picks[:3], Ticks: ticks[:3], Draws: draws[:3]}
	a, b := &drawer{}, &drawer{}
	l := loop(t, timing, a, b)
	want(t, "Check", sched.Check(timing), api.OK)
	clear(picks)
	clear(ticks)
	clear(draws)
	l.Run(4)
	want(t, "the second one's draws", b.draws, []uint64{1, 2, 3})
	want(t, "the first one's", a.draws, []uint64{sched.Mix(1)})
	want(t, "clock", l.Now(), 18)

	picks, ticks, draws = []int{1, 0, 9}, []int{5, 6, 9}, []uint64{1, 2, 9}
	l = loop(t, api.Timing{Picks: picks[:2], Ticks: ticks[:2], Draws: draws[:2]}, &drawer{}, &drawer{})
	l.Run(9)
	want(t, "picks", picks, []int{1, 0, 9})
	want(t, "ticks", ticks, []int{5, 6, 9})
	want(t, "draws", draws, []uint64{1, 2, 9})

	list := []api.Act{act(api.ActNow, 1), act(api.ActWake, 2), act(api.ActWait, 9)}
	c := sched.NewActs(list[:2])
	l = loop(t, api.Timing{Ticks: []int{4}}, c)
	list[0].Kind, list[1].Kind = api.ActWait, api.ActWait
	l.Run(9)
	want(t, "Told", c.Told(), []uint64{4})
	want(t, "acts", list, []api.Act{act(api.ActWait, 1), act(api.ActWait, 2), act(api.ActWait, 9)})

	wake := []int{3, 2, 7}
	l = loop(t, api.Timing{}, &moves{list: []api.Move{{Wake: wake[:2]}}})
	l.Run(1)
	want(t, "a move's list", wake, []int{3, 2, 7})
}

// spoil writes over a list that was answered, its spare room too.
func spoil[T any](l []T, with T) {
	l = l[:cap(l)]
	for i := range l {
		l[i] = with
	}
}

func TestAnswersAreNew(t *testing.T) { // R3
	a := acts(act(api.ActDraw, 0), act(api.ActWait, 3), act(api.ActDraw, 0), act(api.ActDraw, 0))
	l := loop(t, api.Timing{Draws: []uint64{5, 6, 7}}, a, &moves{}, &moves{})
	for _, x := range []struct {
		ready, waits []int
		told         []uint64
	}{
		{[]int{0, 1, 2}, []int{0, 0, 0}, nil},
		{[]int{0, 1, 2}, []int{0, 0, 0}, []uint64{5}},
		{[]int{1, 2}, []int{3, 0, 0}, []uint64{5}},
		{[]int{1, 2}, []int{3, 0, 0}, []uint64{5}},
	} {
		for range 2 {
			ready, waits, told := l.Ready(), l.Waits(), a.Told()
			want(t, "Ready", ready, x.ready)
			want(t, "Waits", waits, x.waits)
			want(t, "Told", told, x.told)
			spoil(ready, -7)
			spoil(waits, -7)
			spoil(told, 77)
		}
		l.Next()
	}
	l.Wake(3)
	l.Run(2)
	told := a.Told()
	spoil(told, 77)
	want(t, "Told", a.Told(), []uint64{5, 6, 7})
}

func TestExample(t *testing.T) { // example 1
	l := loop(t, api.Timing{Picks: []int{0, 1, 1}},
		acts(act(api.ActWait, 5), act(api.ActGo, 0)),
		acts(act(api.ActGo, 0), act(api.ActWake, 5)))
	n, ok := l.Next()
	wantStep(t, "the first one", n, ok, 0, true)
	want(t, "it waits", l.Waits(), []int{5, 0})
	n, ok = l.Next()
	wantStep(t, "the second one", n, ok, 1, true)
	want(t, "it goes", l.Waits(), []int{5, 0})
	n, ok = l.Next()
	wantStep(t, "the second one", n, ok, 1, true)
	want(t, "it is done", l.Waits(), []int{0, -1})
	want(t, "Ready", l.Ready(), []int{0})
}
