package codec

import (
	"math"
	"strings"

	"atrium/api"
)

// The bytes with which parts begin: a number stands ahead of a text.
const (
	numberPart = 1
	textPart   = 2
)

// A 0 within a text has a byte behind it that begins no part, so that it is told from the text's end, and is above it.
const (
	textZero   = "\x00"
	insideZero = "\x00\xff"
	insideMark = 0xff
)

// Key is a key of several parts.
func Key(parts []api.Part) (string, api.Errno) {
	if len(parts) > api.MaxParts {
		return "", api.ErrLong
	}
	for _, p := range parts {
		if p.IsNum && p.Text != "" || !p.IsNum && p.Num != 0 {
			return "", api.ErrArg
		}
	}
	w := NewWriter(math.MaxInt)
	for _, p := range parts {
		putPart(w, p)
	}
	return w.Done()
}

func putPart(w *Writer, p api.Part) {
	if p.IsNum {
		w.U8(numberPart)
		w.U64(p.Num)
		return
	}
	w.U8(textPart)
	w.Raw(strings.ReplaceAll(p.Text, textZero, insideZero))
	w.Raw(textZero)
}

// Split is a key's parts.
func Split(key string) ([]api.Part, api.Errno) {
	var parts []api.Part
	for key != "" {
		if key[0] != numberPart && key[0] != textPart {
			return nil, api.ErrForm
		}
		if len(parts) == api.MaxParts { // a ninth part begins ahead of where it may end too early
			return nil, api.ErrLong
		}
		p, size, e := cutPart(key)
		if e != api.OK {
			return nil, e
		}
		parts = append(parts, p)
		key = key[size:]
	}
	return parts, api.OK
}

// cutPart is the part with which s begins, and how many bytes it has.
func cutPart(s string) (api.Part, int, api.Errno) {
	if s[0] == textPart {
		return cutText(s)
	}
	r := NewReader(s[1:])
	n := r.U64()
	if e := r.Err(); e != api.OK {
		return api.Part{}, 0, e
	}
	return api.Part{Num: n, IsNum: true}, len(s) - r.Left(), api.OK
}

func cutText(s string) (api.Part, int, api.Errno) {
	var text []byte
	for i := 1; i < len(s); i++ {
		if s[i] != 0 {
			text = append(text, s[i])
			continue
		}
		if i+1 == len(s) || s[i+1] != insideMark {
			return api.Part{Text: string(text)}, i + 1, api.OK
		}
		text = append(text, 0)
		i++
	}
	return api.Part{}, 0, api.ErrShort
}

// Range is where all keys stand that begin with some parts: no part begins with FF, so what goes on with one stands behind them all.
func Range(parts []api.Part) (from, to string, e api.Errno) {
	from, e = Key(parts)
	if e != api.OK {
		return "", "", e
	}
	return from, from + "\xff", api.OK
}
