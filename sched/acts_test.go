package sched_test

import (
	"math"
	"testing"

	"atrium/api"
	"atrium/sched"
)

// wantMove holds a move against what should be.
func wantMove(t *testing.T, what string, got, should api.Move) {
	t.Helper()
	want(t, what+": Done", got.Done, should.Done)
	want(t, what+": Wait", got.Wait, should.Wait)
	want(t, what+": Wake", got.Wake, should.Wake)
}

func TestActsOneByOne(t *testing.T) { // P3.4
	a := acts(
		act(api.ActGo, 7), act(api.ActWait, 3), act(api.ActWake, 4), act(api.ActNow, 5), act(api.ActDraw, 6),
		act(0, 1), act(6, 2), act(-1, 3), act(math.MaxInt, 4), act(math.MinInt, 4), act(api.ActDraw, 0))
	for i, should := range []api.Move{{}, {Wait: 3}, {Wake: []int{4}}, {}, {}, {}, {}, {}, {}, {}, {Done: true}, {Done: true}, {Done: true}} {
		wantMove(t, "act "+string(rune('a'+i)), a.Step(nil), should)
	}
	want(t, "a nil Env tells 0", a.Told(), []uint64{0, 0, 0})
}

func TestLastAct(t *testing.T) { // P3.4: done with it; its wait is none, its wake and its number are
	for _, x := range []struct {
		last   api.Act
		should api.Move
		told   []uint64
	}{
		{act(api.ActGo, 3), api.Move{Done: true}, nil},
		{act(api.ActWait, 3), api.Move{Done: true}, nil},
		{act(api.ActWake, 3), api.Move{Done: true, Wake: []int{3}}, nil},
		{act(api.ActNow, 3), api.Move{Done: true}, []uint64{0}},
		{act(api.ActDraw, 3), api.Move{Done: true}, []uint64{0}},
		{act(99, 3), api.Move{Done: true}, nil},
	} {
		a := acts(x.last)
		wantMove(t, "alone", a.Step(nil), x.should)
		want(t, "Told", a.Told(), x.told)
		a = acts(act(api.ActGo, 0), x.last)
		wantMove(t, "the first of two", a.Step(nil), api.Move{})
		wantMove(t, "the second of two", a.Step(nil), x.should)
		want(t, "Told", a.Told(), x.told)
	}
}

func TestNoActs(t *testing.T) { // P3.4: done with the first step, not ahead of it
	var none *sched.Acts
	for _, a := range []*sched.Acts{acts(), sched.NewActs([]api.Act{}), none} {
		l := loop(t, api.Timing{Ticks: []int{2}}, a)
		want(t, "ready", l.Ready(), []int{0})
		want(t, "Done", l.Done(), false)
		want(t, "Run", l.Run(5), 1)
		want(t, "Done", l.Done(), true)
		want(t, "Now", l.Now(), 2)
		want(t, "Told", a.Told(), nil)
		wantMove(t, "a step more", a.Step(nil), api.Move{Done: true})
	}
	if sched.NewActs(nil) == nil {
		t.Error("NewActs tells nil")
	}
}

func TestActsInALoop(t *testing.T) { // P3.4
	a := acts(act(api.ActNow, 0), act(api.ActWait, 2), act(api.ActNow, 0), act(api.ActDraw, 0), act(api.ActWait, 2))
	b := acts(act(api.ActDraw, 0), act(api.ActWake, 3), act(api.ActWake, 2))
	l := loop(t, api.Timing{Ticks: []int{1, 10, 100, 1000, 10000, 100000, 1000000, 10000000}, Draws: []uint64{42}}, a, b)
	for i, should := range []struct {
		n     int
		waits []int
	}{
		{0, []int{0, 0}}, {0, []int{2, 0}}, {1, []int{2, 0}}, {1, []int{2, 0}}, {1, []int{0, -1}},
		{0, []int{0, -1}}, {0, []int{0, -1}}, {0, []int{-1, -1}},
	} {
		n, ok := l.Next()
		wantStep(t, "step", n, ok, should.n, true)
		want(t, "Waits", l.Waits(), should.waits)
		want(t, "Steps", l.Steps(), i+1)
	}
	want(t, "the first one's numbers", a.Told(), []uint64{1, 111111, sched.Mix(1)})
	want(t, "the second one's", b.Told(), []uint64{42})
	want(t, "Done", l.Done(), true)
}

func TestActsWithNoChannels(t *testing.T) { // P3.4: a wait that is no channel's number is none
	for _, n := range []int{math.MinInt, -1, 0, api.MaxChannel + 1, math.MaxInt} {
		l := loop(t, api.Timing{}, acts(act(api.ActWait, n), act(api.ActWake, n), act(api.ActGo, 0)), acts())
		for range 3 {
			want(t, "Ready", l.Ready(), []int{0, 1})
			l.Next()
		}
		want(t, "Waits", l.Waits(), []int{-1, 0})
	}
	for _, n := range []int{1, 2, api.MaxChannel} {
		l := loop(t, api.Timing{}, acts(act(api.ActWait, n), act(api.ActGo, 0)), acts(act(api.ActWake, n)))
		l.Next()
		want(t, "Waits", l.Waits(), []int{n, 0})
		l.Next()
		want(t, "Waits", l.Waits(), []int{0, -1})
	}
}

func TestActsMovesAreNew(t *testing.T) { // R3
	a := acts(act(api.ActWake, 3), act(api.ActWake, 3))
	m := a.Step(nil)
	spoil(m.Wake, 9)
	wantMove(t, "the next one", a.Step(nil), api.Move{Done: true, Wake: []int{3}})
}

func TestToldByAssertion(t *testing.T) { // ways: which of several tasks took numbers down
	tasks := []sched.Task{&moves{list: []api.Move{{Done: true}}}, acts(act(api.ActDraw, 0)), &drawer{}}
	l := loop(t, api.Timing{Draws: []uint64{8, 9}}, tasks...)
	l.Run(3)
	var told []uint64
	for _, task := range tasks {
		if a, ok := task.(*sched.Acts); ok {
			told = append(told, a.Told()...)
		}
	}
	want(t, "Told", told, []uint64{8})
}
