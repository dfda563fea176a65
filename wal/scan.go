package wal

import (
	"bytes"
	"iter"

	"atrium/api"
)

// Scan is the records of any bytes, where the last one ends, and how the log ends.
func Scan(b []byte) (recs []string, end int, why int) {
	w := walk{log: b}
	for at, rec := range w.records {
		recs = append(recs, rec)
		end = at
	}
	return recs, end, w.why
}

// Records goes over the records of any bytes, each with where it ends. It keeps a copy, as the bytes may be others when it is ranged over.
func Records(b []byte) iter.Seq2[int, string] {
	log := bytes.Clone(b)
	return func(yield func(int, string) bool) {
		w := walk{log: log}
		w.records(yield)
	}
}

// walk goes through a log once.
type walk struct {
	log []byte
	at  int
	why int // how the log ends; 0, as long as that is not known
}

// records goes over the records that are ahead.
func (w *walk) records(yield func(int, string) bool) {
	for {
		rec, ok := w.next()
		if !ok || !yield(w.at, rec) {
			return
		}
	}
}

// next is the next record; if there is none any more, why is known.
func (w *walk) next() (string, bool) {
	var rec []byte
	for begun := false; ; begun = true {
		f, why := find(w.log, w.at, begun)
		if why != 0 {
			w.why = why
			return "", false
		}
		rec = append(rec, f.part...)
		w.at = f.end
		if f.kind == kindWhole || f.kind == kindLast {
			return string(rec), true
		}
	}
}

// fragment is one that was found in a log, and where it ends there.
type fragment struct {
	kind byte
	part []byte
	end  int
}

// find is the fragment behind at bytes of a log; or there is none, and why says how the log ends. begun: the one ahead was not its record's last.
func find(log []byte, at int, begun bool) (f fragment, why int) {
	skip, room := place(at)
	passed := log[at:min(at+skip, len(log))]
	if !allZero(passed) {
		return fragment{}, api.EndBad
	}
	at += len(passed)
	rest := log[at:]
	if len(rest) == 0 && !begun && (len(passed) == 0 || len(passed) == skip) {
		return fragment{}, api.EndWhole
	}
	if len(rest) < api.WalHead {
		return fragment{}, api.EndTorn
	}
	var h head
	copy(h[:], rest)
	kind, n := h[6], int(h[4])<<8|int(h[5])
	if n > room || !follows(kind, begun) {
		return fragment{}, api.EndBad
	}
	end := api.WalHead + n
	if len(rest) < end {
		return fragment{}, api.EndTorn
	}
	part := rest[api.WalHead:end:end]
	if h != headOf(kind, string(part)) {
		return fragment{}, api.EndBad
	}
	return fragment{kind: kind, part: part, end: at + end}, 0
}

func allZero(b []byte) bool {
	for _, c := range b {
		if c != 0 {
			return false
		}
	}
	return true
}

// follows tells whether a fragment of that kind may stand there.
func follows(kind byte, begun bool) bool {
	if begun {
		return kind == kindMiddle || kind == kindLast
	}
	return kind == kindWhole || kind == kindFirst
}
