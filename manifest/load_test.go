package manifest_test

import (
	"bytes"
	"hash/crc32"
	"math"
	"slices"
	"strconv"
	"strings"
	"testing"

	"atrium/api"
	"atrium/manifest"
	"atrium/wal"
)

// logOf is the bytes of a log with these records, and where each of them ends.
func logOf(t *testing.T, recs ...string) ([]byte, []int) {
	t.Helper()
	w, _ := wal.NewWriter(0)
	var all []byte
	var ends []int
	for _, rec := range recs {
		b, e := w.Lay(rec)
		want(t, "Lay", e, api.OK)
		all = append(all, b...)
		ends = append(ends, len(all))
	}
	return all, ends
}

// recordsOf is the edits' records.
func recordsOf(l ...api.Edit) []string {
	var recs []string
	for _, e := range l {
		recs = append(recs, written(e))
	}
	return recs
}

// wantLoad is what Load should tell of a manifest.
func wantLoad(t *testing.T, what string, b []byte, s api.State, end int) {
	t.Helper()
	was := bytes.Clone(b)
	got, at, e := manifest.Load(b)
	want(t, what, e, api.OK)
	wantState(t, what, got, s)
	want(t, what+": its end", at, end)
	want(t, what+": what was handed in", bytes.Equal(b, was), true)
}

// refuseLoad is that bytes are no manifest.
func refuseLoad(t *testing.T, what string, b []byte) {
	t.Helper()
	s, end, e := manifest.Load(b)
	want(t, what, e, api.ErrManifest)
	wantState(t, what, s, api.State{})
	want(t, what+": its end", end, 0)
}

// story is edits that can be done one behind the other, and the state behind each.
func story(t *testing.T) ([]api.Edit, []api.State) {
	l := []api.Edit{
		{Log: 1, Next: 3, Seq: 9, Added: []api.Placed{comes(0, file(2, "a", "f"))}},
		{Log: 1, Next: 3, Seq: 9},
		{Log: 3, Next: 6, Seq: 20, Added: []api.Placed{comes(0, file(4, "c", "z")), comes(3, file(5, "q", "r"))}},
		{Log: 3, Next: 9, Seq: 20, Gone: goes(at(0, 2), at(0, 4)), Added: []api.Placed{comes(1, file(7, "p", "z")), comes(1, file(8, "a", "o"))}},
		{Log: 3, Next: 9, Seq: 21, Gone: goes(at(3, 5))},
		{Log: 10, Next: 2000, Seq: 900, Gone: goes(at(1, 8)), Added: manifest.Whole(state(many(11, 100))).Added},
		{Log: api.MaxNumber, Next: api.MaxNumber + 1, Seq: api.MaxSeq, Gone: goes(at(1, 7))},
	}
	s := api.State{Next: 1}
	var states []api.State
	for _, e := range l {
		var no api.Errno
		s, no = manifest.Apply(s, e)
		want(t, "Apply", no, api.OK)
		states = append(states, s)
	}
	return l, states
}

func TestLoad(t *testing.T) { // P11.3, P11.5
	l, states := story(t)
	for n := 1; n <= len(l); n++ {
		b, ends := logOf(t, recordsOf(l[:n]...)...)
		wantLoad(t, "edits", b, states[n-1], ends[n-1])
	}
	for i, s := range states { // Whole, and the edits behind it
		b, ends := logOf(t, recordsOf(append([]api.Edit{manifest.Whole(s)}, l[i+1:]...)...)...)
		wantLoad(t, "Whole and edits", b, states[len(states)-1], ends[len(ends)-1])
	}
	b, _ := logOf(t, recordsOf(manifest.Whole(sample()))...)
	wantLoad(t, "Whole", b, sample(), len(b))
	b, _ = logOf(t, recordsOf(api.Edit{Next: 1})...)
	wantLoad(t, "an edit of nothing", b, api.State{Next: 1}, len(b))
	full := state(many(1, 24), many(25, 1000))
	b, _ = logOf(t, recordsOf(manifest.Whole(full))...)
	wantLoad(t, "MaxTables", b, full, len(b))
	all, _ := logOf(t, slices.Repeat(recordsOf(api.Edit{Log: 5, Next: 6, Seq: 7}), 1000)...)
	wantLoad(t, "many records", all, api.State{Log: 5, Next: 6, Seq: 7}, len(all))
}

func TestLoadCut(t *testing.T) { // P11.3: cut off at every byte
	l, states := story(t)
	recs := recordsOf(l...)
	b, ends := logOf(t, recs...)
	want(t, "several blocks", len(b) > 2*api.WalBlock, true)
	for n := range len(b) + 1 {
		whole := 0
		for whole < len(ends) && ends[whole] <= n {
			whole++
		}
		if whole == 0 {
			refuseLoad(t, "no whole record", b[:n])
			continue
		}
		wantLoad(t, "cut off at "+strconv.Itoa(n), b[:n], states[whole-1], ends[whole-1])
	}
}

func TestLoadPassedOver(t *testing.T) { // P11.3: where the last whole record ends, not what is passed over behind it
	for left := 1; left <= 6; left++ {
		e := api.Edit{Next: 5, Added: []api.Placed{comes(0, file(2, "a", "f"))}}
		for i := 3; len(written(e)) < 900; i++ {
			e.Added = append(e.Added, comes(0, file(i, "a", strings.Repeat("k", 60))))
			e.Next = i + 1
		}
		e.Added[0].Sst.Last += strings.Repeat("f", 1017-left-len(written(e)))
		s, no := manifest.Apply(api.State{Next: 1}, e)
		want(t, "Apply", no, api.OK)
		b, _ := logOf(t, written(e))
		want(t, "bytes left in the block", api.WalBlock-len(b), left)
		for n := range left + 1 {
			wantLoad(t, "bytes 0", append(bytes.Clone(b), make([]byte, n)...), s, len(b))
		}
		refuseLoad(t, "a byte that is not 0", append(bytes.Clone(b), 1))
		next := api.Edit{Log: 1, Next: e.Next, Seq: 1}
		two, ends := logOf(t, recordsOf(e, next)...)
		u, _ := manifest.Apply(s, next)
		wantLoad(t, "one behind them", two, u, ends[1])
	}
}

func TestLoadNothing(t *testing.T) { // P11.3: no whole record
	refuseLoad(t, "nil", nil)
	refuseLoad(t, "no bytes", []byte{})
	refuseLoad(t, "a byte", []byte{0})
	refuseLoad(t, "bytes 0", make([]byte, 6))
	refuseLoad(t, "bytes 0", make([]byte, 2000))
	refuseLoad(t, "a text", []byte("manifest-000007\n"))
}

func TestLoadBad(t *testing.T) { // P11.3: a log that ends bad, whatever stands ahead
	l, states := story(t)
	b, ends := logOf(t, recordsOf(l[:3]...)...)
	for i := range b { // each byte turned: bad, or torn, where a part would be longer than what is there
		turned := bytes.Clone(b)
		turned[i] ^= 0x01
		recs, end, why := wal.Scan(turned)
		if why == api.EndBad || len(recs) == 0 {
			refuseLoad(t, "a byte turned", turned)
			continue
		}
		want(t, "torn", why, api.EndTorn)
		wantLoad(t, "torn by a turned byte", turned, states[len(recs)-1], end)
	}
	for _, more := range []string{strings.Repeat("\x00", 7), strings.Repeat("\xff", 7), "a text behind it", string(b[1:])} {
		refuseLoad(t, "others behind it", append(bytes.Clone(b), more...))
	}
	for n := range 7 { // too few for a fragment: torn
		wantLoad(t, "some bytes behind it", append(bytes.Clone(b), strings.Repeat("\xff", n)...), states[2], ends[2])
	}
}

func TestLoadNoEdit(t *testing.T) { // P11.3: a record that is no edit
	good := recordsOf(api.Edit{Next: 1})[0]
	for _, rec := range []string{
		"", "\x00", "abc", good + "\x00", good[:len(good)-1], varints(0, 1, 0, 0) + "\x80\x00", varints(0, 1, 0, 1), varints(0, 1, 0, 0, 1), varints(1<<63, 1<<63+1, 0, 0, 0), varints(0, 1<<63, 0, 0, 0), varints(0, 1<<64-1, 0, 0, 0),
	} {
		_, no := manifest.Decode(rec)
		want(t, "it is no edit", no, api.ErrEdit)
		for _, recs := range [][]string{{rec}, {rec, good}, {good, rec}, {good, rec, good}, {good, good, rec}} {
			b, _ := logOf(t, recs...)
			refuseLoad(t, "no edit", b)
			refuseLoad(t, "no edit, and a torn tail", append(b, 0, 0))
		}
		b, ends := logOf(t, good, rec)
		if len(rec) > 0 {
			wantLoad(t, "no edit, but cut off", b[:len(b)-1], api.State{Next: 1}, ends[0])
		}
	}
}

func TestLoadCannotBeDone(t *testing.T) { // P11.3: an edit that can't be done, at the first place and later
	for _, e := range []api.Edit{
		{}, {Log: 1, Next: 1}, {Log: api.MaxNumber + 1, Next: api.MaxNumber + 2}, {Next: api.MaxNumber + 2}, {Next: math.MaxInt}, {Next: 1, Seq: api.MaxSeq + 1}, {Next: 1, Seq: math.MaxUint64},
		{Next: 3, Gone: goes(at(0, 2))}, {Next: 3, Gone: goes(at(0, 0))}, {Next: 3, Added: []api.Placed{comes(0, file(3, "a", "b"))}}, {Next: 3, Added: []api.Placed{comes(0, file(0, "a", "b"))}},
		{Next: 3, Added: []api.Placed{comes(7, file(2, "a", "b"))}}, {Next: 3, Added: []api.Placed{comes(math.MaxInt, file(2, "a", "b"))}}, {Next: 3, Added: []api.Placed{comes(0, file(2, "b", "a"))}}, {Next: 3, Added: []api.Placed{comes(0, file(2, "", "a"))}},
		{Next: 4, Added: []api.Placed{comes(1, file(2, "a", "b")), comes(1, file(3, "b", "c"))}}, {Next: 4, Added: []api.Placed{comes(1, file(2, "a", "b")), comes(2, file(2, "c", "d"))}},
	} {
		rec, no := manifest.Encode(e)
		want(t, "Encode", no, api.OK)
		good := recordsOf(api.Edit{Next: 2})[0]
		for _, recs := range [][]string{{rec}, {rec, good}, {good, rec}, {good, good, rec, good}} {
			b, _ := logOf(t, recs...)
			refuseLoad(t, "it can't be done", b)
		}
	}
	l, _ := story(t)
	recs := recordsOf(l...)
	for i := range recs {
		if i == 1 { // it changes nothing
			continue
		}
		b, _ := logOf(t, slices.Insert(slices.Clone(recs), i, recs[i])...)
		refuseLoad(t, "twice: "+strconv.Itoa(i), b)
		if i > 1 {
			b, _ = logOf(t, append([]string{recs[i]}, recs...)...)
			refuseLoad(t, "too early: "+strconv.Itoa(i), b)
			b, _ = logOf(t, append(slices.Clone(recs[:i+1]), recs[i-1])...)
			refuseLoad(t, "numbers that fall: "+strconv.Itoa(i), b)
		}
	}
}

// fragment is a fragment's bytes, by which a record may be longer than what is ever laid.
func fragment(kind byte, part string) string {
	sum := crc32.Checksum([]byte(string([]byte{kind})+part), crc32.MakeTable(crc32.Castagnoli))
	return string([]byte{byte(sum >> 24), byte(sum >> 16), byte(sum >> 8), byte(sum), byte(len(part) >> 8), byte(len(part)), kind}) + part
}

// longLog is the log of one record of any length beyond a block.
func longLog(rec string) []byte {
	const room = api.WalBlock - api.WalHead
	var b strings.Builder
	b.WriteString(fragment(2, rec[:room]))
	for rec = rec[room:]; len(rec) > room; rec = rec[room:] {
		b.WriteString(fragment(3, rec[:room]))
	}
	b.WriteString(fragment(4, rec))
	return []byte(b.String())
}

// largest is an edit of the empty state that can be done, with a record of so many bytes: keys are as long as need be, but not so long that their numbers have a second byte.
func largest(size int) api.Edit {
	e := manifest.Whole(state(nil, many(1, api.MaxTables)))
	need := size - len(written(e))
	longer := func(key, letter string) string {
		n := min(need, api.MaxKey-1-len(key))
		need -= n
		return key + strings.Repeat(letter, n)
	}
	for i := range e.Added {
		f := &e.Added[i].Sst
		f.First, f.Last = longer(f.First, "k"), longer(f.Last, "z")
	}
	return e
}

func TestLoadBeyondMaxRecord(t *testing.T) { // P11.3: what is no Encode of an edit is none in a log either
	for _, more := range []int{-1, 0, 1, 2000} {
		e := largest(api.MaxRecord + more)
		rec := written(e)
		want(t, "bytes", len(rec), api.MaxRecord+more)
		s, no := manifest.Apply(api.State{Next: 1}, e)
		want(t, "Apply", no, api.OK)
		b := longLog(rec)
		recs, end, why := wal.Scan(b)
		want(t, "it is a log", len(recs) == 1 && recs[0] == rec && end == len(b) && why == api.EndWhole, true)
		if more <= 0 {
			wantLoad(t, "up to MaxRecord", b, s, len(b))
		} else {
			refuseLoad(t, "beyond MaxRecord", b)
		}
	}
}

func TestLoadAnswersNewMemory(t *testing.T) { // R3
	l, states := story(t)
	b, ends := logOf(t, recordsOf(l[:4]...)...)
	one, _, _ := manifest.Load(b)
	two, _, _ := manifest.Load(b)
	for i := range one.Version.Levels {
		spoil(one.Version.Levels[i])
	}
	spoil(one.Version.Levels)
	wantState(t, "another answer", two, states[3])
	wantLoad(t, "once more", b, states[3], ends[3])
	spoil(b)
	wantState(t, "its bytes are not kept", two, states[3])
}
