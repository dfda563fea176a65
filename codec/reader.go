package codec

import "atrium/api"

// maxVarint is how many bytes a varint has at most.
const maxVarint = 10

// Reader tells numbers and texts one behind the other.
type Reader struct {
	rest  string
	fault api.Errno
}

// NewReader begins at a text's beginning.
func NewReader(s string) *Reader {
	return &Reader{rest: s}
}

// stuck tells whether nothing is read any more.
func (r *Reader) stuck() bool {
	return r == nil || r.fault != api.OK
}

// fail keeps the first fault; what is left is asked for no more.
func (r *Reader) fail(e api.Errno) {
	r.fault = e
	r.rest = ""
}

// take is the next n bytes; none, if there are not so many.
func (r *Reader) take(n uint64) string {
	if r.stuck() {
		return ""
	}
	if n > uint64(len(r.rest)) {
		r.fail(api.ErrShort)
		return ""
	}
	s := r.rest[:n]
	r.rest = r.rest[n:]
	return s
}

// get is the next number of a width.
func get[N word](r *Reader) N {
	s := r.take(uint64(width[N]()))
	var n uint64
	for i := range len(s) {
		n = n<<8 | uint64(s[i])
	}
	return N(n)
}

// U8 is the next number.
func (r *Reader) U8() uint8 { return get[uint8](r) }

// U16 is the next number.
func (r *Reader) U16() uint16 { return get[uint16](r) }

// U32 is the next number.
func (r *Reader) U32() uint32 { return get[uint32](r) }

// U64 is the next number.
func (r *Reader) U64() uint64 { return get[uint64](r) }

// Varint is the next number.
func (r *Reader) Varint() uint64 {
	if r.stuck() {
		return 0
	}
	n, size, e := groups(r.rest)
	if e != api.OK {
		r.fail(e)
		return 0
	}
	r.rest = r.rest[size:]
	return n
}

// groups is the varint with which s begins, and how many bytes it has. What is cut off ahead of the tenth byte may become one still, so it is short; at the tenth byte it ends, or is none.
func groups(s string) (n uint64, size int, e api.Errno) {
	for i := range len(s) {
		c := s[i]
		if i == maxVarint-1 && c != 1 || i > 0 && c == 0 {
			return 0, 0, api.ErrForm
		}
		n |= uint64(c&0x7f) << (7 * i)
		if c < 0x80 {
			return n, i + 1, api.OK
		}
	}
	return 0, 0, api.ErrShort
}

// Text is the next text. Where its number is none, that is the fault, and take takes nothing.
func (r *Reader) Text() string {
	return r.take(r.Varint())
}

// Raw is the next bytes.
func (r *Reader) Raw(n int) string {
	if n < 0 {
		if !r.stuck() {
			r.fail(api.ErrArg)
		}
		return ""
	}
	return r.take(uint64(n))
}

// Left is how many bytes are left.
func (r *Reader) Left() int {
	if r == nil {
		return 0
	}
	return len(r.rest)
}

// Err is the first fault.
func (r *Reader) Err() api.Errno {
	if r == nil {
		return api.ErrClosed
	}
	return r.fault
}

// Done is the first fault, or that something is left.
func (r *Reader) Done() api.Errno {
	if e := r.Err(); e != api.OK {
		return e
	}
	if r.Left() > 0 {
		return api.ErrRest
	}
	return api.OK
}
