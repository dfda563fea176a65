package server

// inbox is the bytes that came on a connection and were not taken.
type inbox struct {
	bytes string
	parts []part // those that it has, one behind the other; none is empty
}

// part is how many bytes came ahead of a step.
type part struct {
	step int
	size int
}

// add puts bytes behind the others.
func (b *inbox) add(step int, s string) {
	if s == "" {
		return
	}
	b.bytes += s
	b.parts = append(b.parts, part{step, len(s)})
}

// first is ahead of which step the first byte came; it is asked only where there is one.
func (b *inbox) first() int {
	return b.parts[0].step
}

// drop takes the first bytes out, as many as n.
func (b *inbox) drop(n int) {
	b.bytes = b.bytes[n:]
	for n > 0 && n >= b.parts[0].size {
		n -= b.parts[0].size
		b.parts = b.parts[1:]
	}
	if n > 0 {
		b.parts[0].size -= n
	}
}
