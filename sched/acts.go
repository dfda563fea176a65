package sched

import (
	"slices"

	"atrium/api"
)

// Acts is a task that does what a list says.
type Acts struct {
	acts []api.Act // those that are not done yet
	told []uint64
}

// NewActs is a task of these acts.
func NewActs(l []api.Act) *Acts {
	return &Acts{acts: slices.Clone(l)}
}

// Step does the next act.
func (a *Acts) Step(e *Env) api.Move {
	if a == nil || len(a.acts) == 0 {
		return api.Move{Done: true}
	}
	x := a.acts[0]
	a.acts = a.acts[1:]
	m := a.do(x, e)
	if len(a.acts) == 0 {
		m.Done = true
		m.Wait = 0
	}
	return m
}

// do does an act as if others came behind it.
func (a *Acts) do(x api.Act, e *Env) api.Move {
	switch x.Kind {
	case api.ActWait:
		return api.Move{Wait: x.N}
	case api.ActWake:
		return api.Move{Wake: []int{x.N}}
	case api.ActNow:
		a.told = append(a.told, e.Now())
	case api.ActDraw:
		a.told = append(a.told, e.Draw())
	}
	return api.Move{}
}

// Told is the numbers that it took down.
func (a *Acts) Told() []uint64 {
	if a == nil {
		return nil
	}
	return slices.Clone(a.told)
}
