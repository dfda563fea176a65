package codec

import "atrium/api"

// A frame's bytes: a mark, its kind, 0 and its body's length ahead of the body, and the check sum behind it.
const (
	frameMark = "DF"
	frameHead = 8
	frameSum  = 4
)

// Frame is a body with its check sum.
func Frame(kind uint8, body string) (string, api.Errno) {
	if len(body) > api.MaxFrame {
		return "", api.ErrLong
	}
	w := NewWriter(frameHead + len(body) + frameSum)
	w.Raw(frameMark)
	w.U8(kind)
	w.U8(0)
	w.U32(uint32(len(body)))
	w.Raw(body)
	s, _ := w.Done() // there is room for it all
	w.U32(Crc(s))
	return w.Done()
}

// Unframe is the frame with which a text begins.
func Unframe(s string) (kind uint8, body string, size int, e api.Errno) {
	if len(s) < frameHead {
		return 0, "", 0, api.ErrShort
	}
	r := NewReader(s)
	mark := r.Raw(len(frameMark))
	kind = r.U8()
	zero := r.U8()
	n := r.U32()
	if mark != frameMark || zero != 0 || n > api.MaxFrame {
		return 0, "", 0, api.ErrForm
	}
	body = r.Raw(int(n))
	sum := r.U32()
	if e := r.Err(); e != api.OK {
		return 0, "", 0, e
	}
	if sum != Crc(s[:frameHead+len(body)]) {
		return 0, "", 0, api.ErrSum
	}
	return kind, body, frameHead + len(body) + frameSum, api.OK
}
