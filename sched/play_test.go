package sched_test

import (
	"math/rand"
	"slices"
	"testing"

	"atrium/api"
	"atrium/sched"
)

// stage is what the chapter says, told another way: each task's acts as a list that shrinks, who waits by channels.
type stage struct {
	timing  api.Timing
	left    [][]api.Act
	waiting map[int][]int // by channels: which tasks
	done    map[int]bool
	told    [][]uint64
	used    int
	drawn   int
	clock   uint64
	steps   int
}

func (s *stage) isReady(n int) bool {
	for _, l := range s.waiting {
		if slices.Contains(l, n) {
			return false
		}
	}
	return !s.done[n]
}

func (s *stage) ready() []int {
	var l []int
	for n := range s.left {
		if s.isReady(n) {
			l = append(l, n)
		}
	}
	return l
}

func (s *stage) draw() uint64 {
	s.drawn++
	if s.drawn <= len(s.timing.Draws) {
		return s.timing.Draws[s.drawn-1]
	}
	return sched.Mix(uint64(s.drawn - len(s.timing.Draws)))
}

func (s *stage) wake(channel int) int {
	n := len(s.waiting[channel])
	delete(s.waiting, channel)
	return n
}

func (s *stage) step(pick int) (int, bool) {
	ready := s.ready()
	if pick < 0 || len(ready) == 0 {
		return 0, false
	}
	if s.steps < len(s.timing.Ticks) {
		s.clock += uint64(s.timing.Ticks[s.steps])
	}
	s.steps++
	n := ready[pick%len(ready)]
	if len(s.left[n]) > 0 {
		x := s.left[n][0]
		s.left[n] = s.left[n][1:]
		switch x.Kind {
		case 2:
			if x.N > 0 && x.N <= 1024 && len(s.left[n]) > 0 {
				s.waiting[x.N] = append(s.waiting[x.N], n)
			}
		case 3:
			s.wake(x.N)
		case 4:
			s.told[n] = append(s.told[n], s.clock)
		case 5:
			s.told[n] = append(s.told[n], s.draw())
		}
	}
	s.done[n] = len(s.left[n]) == 0
	return n, true
}

func (s *stage) next() (int, bool) {
	if len(s.ready()) == 0 {
		return 0, false
	}
	pick := 0
	if s.used < len(s.timing.Picks) {
		pick = s.timing.Picks[s.used]
	}
	s.used++
	return s.step(pick)
}

func (s *stage) waits() []int {
	var l []int
	for n := range s.left {
		w := 0
		for channel, who := range s.waiting {
			if slices.Contains(who, n) {
				w = channel
			}
		}
		if s.done[n] {
			w = -1
		}
		l = append(l, w)
	}
	return l
}

func randomTiming(r *rand.Rand) api.Timing {
	var t api.Timing
	for range r.Intn(30) {
		t.Picks = append(t.Picks, r.Intn(9))
	}
	for range r.Intn(30) {
		t.Ticks = append(t.Ticks, []int{0, 1, r.Intn(1 << 31), 1<<31 - 1}[r.Intn(4)])
	}
	for range r.Intn(10) {
		t.Draws = append(t.Draws, r.Uint64())
	}
	return t
}

func randomActs(r *rand.Rand) []api.Act {
	var l []api.Act
	for range r.Intn(9) {
		n := []int{1, 2, 3, 1024, 0, -1, 1025}[r.Intn(7)]
		l = append(l, act([]int{0, 1, 2, 2, 2, 3, 3, 3, 4, 5, 6}[r.Intn(11)], n))
	}
	return l
}

// turn does one call to a loop and to a stage, and holds the answers against each other.
func turn(t *testing.T, r *rand.Rand, l *sched.Loop, s *stage) (*sched.Acts, bool) {
	t.Helper()
	switch r.Intn(8) {
	case 0:
		list := randomActs(r)
		a := sched.NewActs(list)
		n, e := l.Add(a)
		want(t, "Add", e, api.OK)
		want(t, "its number", n, len(s.left))
		s.left, s.told = append(s.left, list), append(s.told, nil)
		return a, true
	case 1:
		pick := r.Intn(12) - 2
		n, ok := l.Step(pick)
		m, should := s.step(pick)
		wantStep(t, "Step", n, ok, m, should)
	case 2:
		channel := []int{1, 2, 3, 1024, 0, -1}[r.Intn(6)]
		want(t, "Wake", l.Wake(channel), s.wake(channel))
	case 3:
		most := r.Intn(6) - 1
		steps := 0
		for range most {
			if _, ok := s.next(); ok {
				steps++
			}
		}
		want(t, "Run", l.Run(most), steps)
	default:
		n, ok := l.Next()
		m, should := s.next()
		wantStep(t, "Next", n, ok, m, should)
	}
	return nil, false
}

func TestPlays(t *testing.T) { // P3.1 to P3.4, P3.7
	r := rand.New(rand.NewSource(31))
	for range 3000 {
		timing := randomTiming(r)
		l := loop(t, timing)
		s := &stage{timing: timing, waiting: map[int][]int{}, done: map[int]bool{}}
		var all []*sched.Acts
		for range 40 {
			if a, ok := turn(t, r, l, s); ok {
				all = append(all, a)
			}
			want(t, "Ready", l.Ready(), s.ready())
			want(t, "Waits", l.Waits(), s.waits())
			want(t, "Now", l.Now(), s.clock)
			want(t, "Steps", l.Steps(), s.steps)
			want(t, "Done", l.Done(), !slices.ContainsFunc(s.waits(), func(w int) bool { return w >= 0 }))
		}
		for n, a := range all {
			want(t, "Told", a.Told(), s.told[n])
		}
		if t.Failed() {
			return
		}
	}
}

// run is what became of tasks: who took each step, the clock behind it, what they took down.
type run struct {
	who   []int
	clock []uint64
	told  [][]uint64
	waits []int
}

func play(t *testing.T, timing api.Timing, lists [][]api.Act) run {
	t.Helper()
	l := loop(t, timing)
	var all []*sched.Acts
	for _, list := range lists {
		a := sched.NewActs(list)
		all = append(all, a)
		l.Add(a)
	}
	var x run
	for {
		n, ok := l.Next()
		if !ok {
			break
		}
		x.who, x.clock = append(x.who, n), append(x.clock, l.Now())
	}
	for _, a := range all {
		x.told = append(x.told, a.Told())
	}
	x.waits = l.Waits()
	return x
}

func randomLists(r *rand.Rand) [][]api.Act {
	var lists [][]api.Act
	for range 1 + r.Intn(6) {
		lists = append(lists, randomActs(r))
	}
	return lists
}

func TestToldAgain(t *testing.T) { // P3.5
	r := rand.New(rand.NewSource(35))
	for range 500 {
		timing, lists := randomTiming(r), randomLists(r)
		want(t, "the same run", play(t, timing, lists), play(t, timing, lists))
	}
}

func TestLeastGoes(t *testing.T) { // P3.6: with picks that are used up, or are 0
	r := rand.New(rand.NewSource(36))
	for range 500 {
		l := loop(t, api.Timing{Picks: make([]int, r.Intn(9)), Ticks: []int{1, 2}})
		for _, list := range randomLists(r) {
			l.Add(sched.NewActs(list))
		}
		for {
			ready := l.Ready()
			n, ok := l.Next()
			if !ok {
				want(t, "none is ready", len(ready), 0)
				break
			}
			want(t, "the least one", n, ready[0])
		}
	}
}

func TestTurns(t *testing.T) { // P3.6: with picks 0, 1, 2, .. each that stays ready has its turn
	for tasks := 1; tasks <= api.MaxTasks; tasks++ {
		picks := make([]int, 3*api.MaxTasks)
		for i := range picks {
			picks[i] = i
		}
		l := loop(t, api.Timing{Picks: picks})
		for range tasks {
			l.Add(&moves{})
		}
		var who []int
		for range picks {
			n, ok := l.Next()
			want(t, "Next", ok, true)
			who = append(who, n)
		}
		for from := 0; from+tasks <= len(who); from++ {
			turns := slices.Sorted(slices.Values(who[from : from+tasks]))
			want(t, "turns", turns, l.Ready())
		}
	}
}

func TestWaitersTakeNoStep(t *testing.T) { // P3.7
	r := rand.New(rand.NewSource(37))
	for range 500 {
		timing := randomTiming(r)
		l := loop(t, timing)
		for _, list := range randomLists(r) {
			l.Add(sched.NewActs(list))
		}
		clock := uint64(0)
		for k := 0; ; k++ {
			waits := l.Waits()
			n, ok := l.Next()
			if !ok {
				break
			}
			want(t, "who takes a step did not wait", waits[n], 0)
			if k < len(timing.Ticks) {
				clock += uint64(timing.Ticks[k])
			}
			want(t, "the clock goes on by the Ticks alone", l.Now(), clock)
		}
		want(t, "the clock stands", l.Now(), clock)
	}
}

func TestWaiterAmongOthers(t *testing.T) { // P3.7: however often others step, till its channel is woken
	waiter := &moves{list: []api.Move{{Wait: 9}}}
	other := &moves{}
	l := loop(t, api.Timing{}, waiter, other)
	l.Next()
	for pick := range 50 {
		l.Step(pick)
		l.Wake(8)
	}
	want(t, "the waiter's steps", waiter.steps, 1)
	want(t, "the other one's", other.steps, 50)
	l.Wake(9)
	l.Next()
	want(t, "behind the wake", waiter.steps, 2)
}
