package mac

import "math/bits"

// blockSize is how many bytes a block has.
const blockSize = 64

// roundWords are K(0) to K(63).
var roundWords = [64]uint32{
	0x428A2F98, 0x71374491, 0xB5C0FBCF, 0xE9B5DBA5, 0x3956C25B, 0x59F111F1, 0x923F82A4, 0xAB1C5ED5,
	0xD807AA98, 0x12835B01, 0x243185BE, 0x550C7DC3, 0x72BE5D74, 0x80DEB1FE, 0x9BDC06A7, 0xC19BF174,
	0xE49B69C1, 0xEFBE4786, 0x0FC19DC6, 0x240CA1CC, 0x2DE92C6F, 0x4A7484AA, 0x5CB0A9DC, 0x76F988DA,
	0x983E5152, 0xA831C66D, 0xB00327C8, 0xBF597FC7, 0xC6E00BF3, 0xD5A79147, 0x06CA6351, 0x14292967,
	0x27B70A85, 0x2E1B2138, 0x4D2C6DFC, 0x53380D13, 0x650A7354, 0x766A0ABB, 0x81C2C92E, 0x92722C85,
	0xA2BFE8A1, 0xA81A664B, 0xC24B8B70, 0xC76C51A3, 0xD192E819, 0xD6990624, 0xF40E3585, 0x106AA070,
	0x19A4C116, 0x1E376C08, 0x2748774C, 0x34B0BCB5, 0x391C0CB3, 0x4ED8AA4A, 0x5B9CCA4F, 0x682E6FF3,
	0x748F82EE, 0x78A5636F, 0x84C87814, 0x8CC70208, 0x90BEFFFA, 0xA4506CEB, 0xBEF9A3F7, 0xC67178F2,
}

// words are a state's.
type words [8]uint32

// Hasher takes a text piece by piece.
type Hasher struct {
	state words
	block [blockSize]byte // the bytes behind the last whole block
	size  int             // bytes written
}

// New has nothing.
func New() *Hasher {
	return &Hasher{state: words{
		0x6A09E667, 0xBB67AE85, 0x3C6EF372, 0xA54FF53A, 0x510E527F, 0x9B05688C, 0x1F83D9AB, 0x5BE0CD19,
	}}
}

// Sum is a text's SHA-256.
func Sum(s string) string {
	h := New()
	h.Write(s)
	return h.Sum()
}

// Write puts a text behind what was written.
func (h *Hasher) Write(s string) {
	if h == nil {
		return
	}
	for len(s) > 0 {
		n := copy(h.block[h.size%blockSize:], s)
		h.size += n
		s = s[n:]
		if h.size%blockSize == 0 {
			h.state = h.state.behind(spread(h.block))
		}
	}
}

// Sum is that of all that was written.
func (h *Hasher) Sum() string {
	if h == nil {
		return ""
	}
	c := h.Fork() // the padding is no part of what was written
	c.Write(padding(h.size))
	var sum []byte
	for _, x := range c.state {
		sum = append(sum, byte(x>>24), byte(x>>16), byte(x>>8), byte(x))
	}
	return string(sum)
}

// Len is how many bytes were written.
func (h *Hasher) Len() int {
	if h == nil {
		return 0
	}
	return h.size
}

// Fork is another one that is the same.
func (h *Hasher) Fork() *Hasher {
	if h == nil {
		return nil
	}
	c := *h
	return &c
}

// padding is what stands behind n bytes, so that they are whole blocks.
func padding(n int) string {
	noughts := (2*blockSize - 9 - n%blockSize) % blockSize
	return "\x80" + string(make([]byte, noughts)) + eight(8*uint64(n))
}

// eight is a number in 8 bytes, the highest first.
func eight(x uint64) string {
	var b [8]byte
	for i := range b {
		b[i] = byte(x >> (56 - 8*i))
	}
	return string(b[:])
}

// spread is a block's words W(0) to W(63).
func spread(block [blockSize]byte) [64]uint32 {
	var w [64]uint32
	for i, b := range block {
		w[i/4] = w[i/4]<<8 | uint32(b)
	}
	for t := 16; t < len(w); t++ {
		x, y := w[t-15], w[t-2]
		s0 := ror(x, 7) ^ ror(x, 18) ^ x>>3
		s1 := ror(y, 17) ^ ror(y, 19) ^ y>>10
		w[t] = s1 + w[t-7] + s0 + w[t-16]
	}
	return w
}

// behind is the state behind a block with these words.
func (s words) behind(w [64]uint32) words {
	a, b, c, d, e, f, g, h := s[0], s[1], s[2], s[3], s[4], s[5], s[6], s[7]
	for t := range len(w) {
		t1 := h + (ror(e, 6) ^ ror(e, 11) ^ ror(e, 25)) + (e&f ^ ^e&g) + roundWords[t] + w[t]
		t2 := (ror(a, 2) ^ ror(a, 13) ^ ror(a, 22)) + (a&b ^ a&c ^ b&c)
		h, g, f, e = g, f, e, d+t1
		d, c, b, a = c, b, a, t1+t2
	}
	for i, x := range [8]uint32{a, b, c, d, e, f, g, h} {
		s[i] += x
	}
	return s
}

func ror(x uint32, n int) uint32 {
	return bits.RotateLeft32(x, -n)
}
