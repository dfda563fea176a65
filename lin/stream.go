package lin

import (
	"cmp"
	"slices"
	"strings"

	"atrium/api"
)

// stream is what came on a connection, but for the requests that were taken.
type stream struct {
	bytes string
	parts []part // those that it has, one behind the other; none is empty
}

// part is how many bytes came ahead of a step.
type part struct {
	step int
	size int
}

// came is what came on a connection ahead of the steps that were done.
func came(l []api.Arrival, conn, steps int) stream {
	var own []api.Arrival
	for _, a := range l {
		if a.Conn == conn && a.Step >= 0 && a.Step < steps && a.Bytes != "" {
			own = append(own, a)
		}
	}
	slices.SortStableFunc(own, func(a, b api.Arrival) int { return cmp.Compare(a.Step, b.Step) })
	var bytes strings.Builder
	var s stream
	for _, a := range own {
		bytes.WriteString(a.Bytes)
		s.parts = append(s.parts, part{a.Step, len(a.Bytes)})
	}
	s.bytes = bytes.String()
	return s
}

// first is ahead of which step the first byte came; it is asked only where there is one.
func (s *stream) first() int {
	return s.parts[0].step
}

// drop takes the first bytes out, as many as n.
func (s *stream) drop(n int) {
	s.bytes = s.bytes[n:]
	for n > 0 && n >= s.parts[0].size {
		n -= s.parts[0].size
		s.parts = s.parts[1:]
	}
	if n > 0 {
		s.parts[0].size -= n
	}
}
