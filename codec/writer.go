package codec

import "atrium/api"

// Writer puts numbers and texts one behind the other.
type Writer struct {
	most  int
	bytes []byte
	over  bool
}

// NewWriter writes so many bytes at most.
func NewWriter(most int) *Writer {
	return &Writer{most: max(most, 0)}
}

// room tells whether n more bytes may be written; if not, the writer is over, and its bytes are asked for no more.
func (w *Writer) room(n int) bool {
	if w == nil || w.over {
		return false
	}
	if n > w.most-len(w.bytes) {
		w.over = true
		w.bytes = nil
		return false
	}
	return true
}

// put puts a number of any width.
func put[N word](w *Writer, n N) {
	size := width[N]()
	if !w.room(size) {
		return
	}
	for i := range size {
		w.bytes = append(w.bytes, byte(uint64(n)>>(8*(size-1-i))))
	}
}

// U8 puts a number.
func (w *Writer) U8(n uint8) { put(w, n) }

// U16 puts a number.
func (w *Writer) U16(n uint16) { put(w, n) }

// U32 puts a number.
func (w *Writer) U32(n uint32) { put(w, n) }

// U64 puts a number.
func (w *Writer) U64(n uint64) { put(w, n) }

// Varint puts a number in its shortest form.
func (w *Writer) Varint(n uint64) {
	if w.room(varintWidth(n)) {
		w.groups(n)
	}
}

// groups puts a number's groups of 7 bits; that there is room was asked ahead.
func (w *Writer) groups(n uint64) {
	for n >= 0x80 {
		w.bytes = append(w.bytes, byte(n)|0x80)
		n >>= 7
	}
	w.bytes = append(w.bytes, byte(n))
}

// Text puts a text with its length: both, or none of them.
func (w *Writer) Text(s string) {
	n := uint64(len(s))
	if w.room(varintWidth(n) + len(s)) {
		w.groups(n)
		w.bytes = append(w.bytes, s...)
	}
}

// Raw puts bytes.
func (w *Writer) Raw(s string) {
	if w.room(len(s)) {
		w.bytes = append(w.bytes, s...)
	}
}

// Len is how many bytes are written.
func (w *Writer) Len() int {
	if w == nil {
		return 0
	}
	return len(w.bytes)
}

// Done is the bytes.
func (w *Writer) Done() (string, api.Errno) {
	if w == nil {
		return "", api.ErrClosed
	}
	if w.over {
		return "", api.ErrLong
	}
	return string(w.bytes), api.OK
}
