package model

import (
	"math"
	"slices"

	"atrium/api"
	"atrium/codec"
)

// Mutates tells whether a call that was told an answer has put an entry.
func Mutates(c api.Call, a api.Answer) bool {
	if a.Status != 200 {
		return a.Status == 201 || a.Status == 204
	}
	switch c.Kind {
	case api.CallTouch:
		return true
	case api.CallRevokeUser, api.CallRevokeAll:
		return a.Revoked > 0
	}
	return false
}

// Text is an entry's text.
func Text(e api.Entry) string {
	w := codec.NewWriter(math.MaxInt)
	w.Varint(uint64(e.Number))
	w.Varint(uint64(e.Kind))
	w.Varint(e.Tick)
	w.Text(e.Subject)
	s, _ := w.Done() // it has room for any
	return s
}

// Same tells whether two answers are the same.
func Same(a, b api.Answer) bool {
	return a.Status == b.Status && a.Word == b.Word &&
		a.Token == b.Token && a.User == b.User && a.Data == b.Data && a.Expires == b.Expires &&
		a.Revoked == b.Revoked && slices.Equal(a.Tokens, b.Tokens) &&
		slices.Equal(a.Entries, b.Entries) && a.Head == b.Head &&
		a.Live == b.Live && a.Users == b.Users && a.Total == b.Total && a.Next == b.Next
}
