package sched

// Env is what a task sees.
type Env struct {
	now     uint64
	draws   []uint64 // those that are not drawn yet
	further uint64   // how many were drawn behind the last of them
}

// Now is the clock.
func (e *Env) Now() uint64 {
	if e == nil {
		return 0
	}
	return e.now
}

// Draw is the next draw.
func (e *Env) Draw() uint64 {
	if e == nil {
		return 0
	}
	if len(e.draws) > 0 {
		d := e.draws[0]
		e.draws = e.draws[1:]
		return d
	}
	e.further++
	return Mix(e.further)
}

// Mix is a number, mixed.
func Mix(x uint64) uint64 {
	x = (x ^ x>>30) * 0xBF58476D1CE4E5B9
	x = (x ^ x>>27) * 0x94D049BB133111EB
	return x ^ x>>31
}
