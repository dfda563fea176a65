package record

import (
	"strings"

	"atrium/api"
	"atrium/codec"
	"atrium/text"
)

// headSize is how many bytes a head has.
const headSize = 32

// maxSubject is how many bytes a Subject has at most.
const maxSubject = 128

// Empty is the ledger of a tenant that did nothing.
func Empty() api.Ledger {
	return api.Ledger{Next: 1, Head: strings.Repeat("\x00", headSize)}
}

// EncodeLedger is a ledger's value.
func EncodeLedger(l api.Ledger) (string, api.Errno) {
	if len(l.Head) != headSize || l.Next == 0 {
		return "", api.ErrRecord
	}
	w := codec.NewWriter(api.MaxValue)
	w.U64(l.Next)
	w.U64(l.Entries)
	w.Raw(l.Head)
	return w.Done()
}

// DecodeLedger is the ledger of a value.
func DecodeLedger(value string) (api.Ledger, api.Errno) {
	r := codec.NewReader(value)
	l := api.Ledger{Next: r.U64(), Entries: r.U64(), Head: r.Raw(headSize)}
	if again, e := EncodeLedger(l); e != api.OK || again != value {
		return api.Ledger{}, api.ErrRecord
	}
	return l, api.OK
}

// EncodeSession is a session's value; the Token stands in its key.
func EncodeSession(s api.Session) (string, api.Errno) {
	if !isToken(s.Token) || !text.Name(s.User) || len(s.Data) > api.MaxData || !text.Valid(s.Data) {
		return "", api.ErrRecord
	}
	w := codec.NewWriter(api.MaxValue)
	w.Text(s.User)
	w.Text(s.Data)
	w.U64(s.Expires)
	return w.Done()
}

// DecodeSession is the session of a Token and a value.
func DecodeSession(token, value string) (api.Session, api.Errno) {
	r := codec.NewReader(value)
	s := api.Session{Token: token, User: r.Text(), Data: r.Text(), Expires: r.U64()}
	if again, e := EncodeSession(s); e != api.OK || again != value {
		return api.Session{}, api.ErrRecord
	}
	return s, api.OK
}

// EncodeEntry is an entry's text.
func EncodeEntry(x api.Entry) (string, api.Errno) {
	if x.Number < 1 || x.Kind < 1 || len(x.Subject) > maxSubject {
		return "", api.ErrRecord
	}
	w := codec.NewWriter(api.MaxValue)
	w.Varint(uint64(x.Number))
	w.Varint(uint64(x.Kind))
	w.Varint(x.Tick)
	w.Text(x.Subject)
	return w.Done()
}

// DecodeEntry is the entry of a text. A number above the greatest is read as one below 0, and no entry has that.
func DecodeEntry(value string) (api.Entry, api.Errno) {
	r := codec.NewReader(value)
	x := api.Entry{Number: int(r.Varint()), Kind: int(r.Varint()), Tick: r.Varint(), Subject: r.Text()}
	if again, e := EncodeEntry(x); e != api.OK || again != value {
		return api.Entry{}, api.ErrRecord
	}
	return x, api.OK
}

func fitsLedger(_ api.Place, value string) bool {
	_, e := DecodeLedger(value)
	return e == api.OK
}

func fitsSession(p api.Place, value string) bool {
	_, e := DecodeSession(p.Token, value)
	return e == api.OK
}

// fitsIndex tells that a record by user or by expiry has all in its key.
func fitsIndex(_ api.Place, value string) bool {
	return value == ""
}

func fitsEntry(_ api.Place, value string) bool {
	_, e := DecodeEntry(value)
	return e == api.OK
}
