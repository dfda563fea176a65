package lin

import "atrium/api"

// term is what a record says of a term.
type term api.Served

// rules is what holds of a term that is in order.
func rules() []func(s term) bool {
	return []func(s term) bool{
		term.hasLines,
		term.isNumbered,
		term.hasUnlikePoints,
		term.hasOneUnsure,
		term.hasSteps,
	}
}

// isDisordered tells whether a term is not in order. One without an engine did nothing, so there is nothing to be in order.
func isDisordered(s api.Served) bool {
	if s.Open != api.OK {
		return false
	}
	for _, holds := range rules() {
		if !holds(term(s)) {
			return true
		}
	}
	return false
}

// hasLines tells whether each connection has its line.
func (s term) hasLines() bool {
	return len(s.Lines) == api.MaxConns
}

// isNumbered tells whether each connection's requests are numbered in their order.
func (s term) isNumbered() bool {
	next := map[int]int{}
	for _, a := range s.Asked {
		if a.Nth != next[a.Conn] {
			return false
		}
		next[a.Conn]++
	}
	return true
}

// hasUnlikePoints tells whether at no step two requests were determined.
func (s term) hasUnlikePoints() bool {
	at := map[int]int{}
	for _, a := range s.Asked {
		if hasPoint(a) {
			at[a.Point]++
			if at[a.Point] > 1 {
				return false
			}
		}
	}
	return true
}

// hasOneUnsure tells whether there is one request at most of which nobody knows whether it was done.
func (s term) hasOneUnsure() bool {
	n := 0
	for _, a := range s.Asked {
		if a.Fate == api.FateUnsure {
			n++
		}
	}
	return n <= 1
}

// hasSteps tells whether each request's steps follow one another, and were done.
func (s term) hasSteps() bool {
	for _, a := range s.Asked {
		switch {
		case hasPoint(a) && (a.First > a.Point || a.Point >= s.Steps):
			return false
		case wasAnswered(a) && (!hasPoint(a) || a.Point > a.Done || a.Done >= s.Steps):
			return false
		}
	}
	return true
}

// hasPoint tells whether a request was determined.
func hasPoint(a api.Asked) bool {
	return a.Point >= 0
}

// wasAnswered tells whether a request's reply was sent.
func wasAnswered(a api.Asked) bool {
	return a.Done >= 0
}
