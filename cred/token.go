package cred

import (
	"atrium/api"
	"atrium/codec"
	"atrium/mac"
)

// tokenBytes is how many bytes stand behind a token's letters: two numbers of 64 bits.
const tokenBytes = 16

// Token is the token of two numbers.
func Token(n, draw uint64) string {
	w := codec.NewWriter(tokenBytes)
	w.U64(n)
	w.U64(draw)
	s, _ := w.Done() // it has just the room that both take
	return mac.Base64(s)
}

// ParseToken is the two numbers of a token.
func ParseToken(s string) (n, draw uint64, e api.Errno) {
	if len(s) != api.TokenSize {
		return 0, 0, api.ErrToken
	}
	b, is := mac.Unbase64(s) // so many letters are just so many bytes
	if !is {
		return 0, 0, api.ErrToken
	}
	r := codec.NewReader(b)
	return r.U64(), r.U64(), api.OK
}
