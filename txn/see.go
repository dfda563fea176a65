package txn

import (
	"iter"
	"slices"
	"strings"

	"atrium/api"
)

// Get is what it sees of a key.
func (t *Txn) Get(key string) (string, bool) {
	if t.closed() {
		return "", false
	}
	if w, is := t.writes[key]; is {
		return w.Value, !w.Gone
	}
	return t.db.Get(key, t.snap)
}

// Scan goes over what it sees.
func (t *Txn) Scan(from, to string) iter.Seq2[string, string] {
	if t.closed() {
		return func(func(string, string) bool) {}
	}
	own := slices.DeleteFunc(t.Writes(), func(w api.Write) bool {
		return w.Key < from || to != "" && w.Key >= to
	})
	return over(own, t.db.Scan(from, to, t.snap))
}

// over goes over two at once, by rising keys: writes, and the values that lie below them. Of a key that both have the write counts.
func over(own []api.Write, below iter.Seq2[string, string]) iter.Seq2[string, string] {
	return func(yield func(string, string) bool) {
		rest := own
		for key, value := range below {
			n, hides := upTo(rest, key)
			if !tell(rest[:n], yield) || !hides && !yield(key, value) {
				return
			}
			rest = rest[n:]
		}
		tell(rest, yield)
	}
}

// upTo is how many of some writes, by rising keys, are of keys up to that one, and whether the last of these is of just that.
func upTo(l []api.Write, key string) (int, bool) {
	n, is := slices.BinarySearchFunc(l, key, func(w api.Write, key string) int { return strings.Compare(w.Key, key) })
	if is {
		n++
	}
	return n, is
}

// tell tells the values of writes; false, if it was stopped.
func tell(l []api.Write, yield func(string, string) bool) bool {
	for _, w := range l {
		if !w.Gone && !yield(w.Key, w.Value) {
			return false
		}
	}
	return true
}
