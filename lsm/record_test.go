package lsm_test

import (
	"math"
	"math/rand"
	"slices"
	"strings"
	"testing"

	"atrium/api"
	"atrium/codec"
	"atrium/lsm"
)

func TestCheck(t *testing.T) { // P13.1
	o := api.Options{Shape: api.Shape{Block: 64, Restart: 1, Bits: 1}, Mem: 1, Zero: 1, Base: 1, Fan: 2}
	want(t, "the least", lsm.Check(o), api.OK)
	want(t, "the greatest", lsm.Check(api.Options{Shape: api.Shape{Block: 32768, Restart: 64, Bits: 32}, Mem: 1 << 18, Zero: 16, Base: 1 << 20, Fan: 16}), api.OK)
	want(t, "none", lsm.Check(api.Options{}), api.ErrArg)
	fields := []struct {
		what        string
		field       func(o *api.Options) *int
		least, most int
	}{
		{"Block", func(o *api.Options) *int { return &o.Shape.Block }, 64, 32768},
		{"Restart", func(o *api.Options) *int { return &o.Shape.Restart }, 1, 64},
		{"Bits", func(o *api.Options) *int { return &o.Shape.Bits }, 1, 32},
		{"Mem", func(o *api.Options) *int { return &o.Mem }, 1, 1 << 18},
		{"Zero", func(o *api.Options) *int { return &o.Zero }, 1, 16},
		{"Base", func(o *api.Options) *int { return &o.Base }, 1, 1 << 20},
		{"Fan", func(o *api.Options) *int { return &o.Fan }, 2, 16},
	}
	for _, x := range fields {
		for n, should := range map[int]api.Errno{x.least: api.OK, x.most: api.OK, x.least - 1: api.ErrArg, x.most + 1: api.ErrArg, math.MinInt: api.ErrArg, math.MaxInt: api.ErrArg} {
			o := small()
			*x.field(&o) = n
			want(t, x.what, lsm.Check(o), should)
			d, e := lsm.Open(newDisk(t, 1<<20), o)
			want(t, x.what+": Open", e, should)
			want(t, x.what+": an engine", d != nil, should == api.OK)
		}
	}
}

func TestRecord(t *testing.T) { // P13.1
	want(t, "a record", rec(t, 300, "b=", "a=xy", "c-"), "\xac\x02\x03"+"\x01a\x00\x02xy"+"\x01b\x00\x00"+"\x01c\x01")
	want(t, "of one key the last one", rec(t, 1, "a=1", "b=2", "a-", "b-", "a=3"), "\x01\x02"+"\x01a\x00\x013"+"\x01b\x01")
	want(t, "the greatest sequence", rec(t, api.MaxSeq, "a-"), "\xff\xff\xff\xff\xff\xff\xff\x7f\x01\x01a\x01")
	long := strings.Repeat("k", 128)
	want(t, "the longest", rec(t, 1, long+"="+strings.Repeat("v", 1024)), "\x01\x01\x80\x01"+long+"\x00\x80\x08"+strings.Repeat("v", 1024))
	l := batch("b=2", "a=1", "b=3")
	was := slices.Clone(l)
	lsm.Record(7, l)
	wantList(t, "what was handed in", l, was)
}

// refusedBatches is lists that may not be batches.
func refusedBatches() map[string][]api.Write {
	return map[string][]api.Write{
		"no write":                       nil,
		"too many":                       many(1025, 1),
		"too many of one key":            slices.Repeat(batch("a=1"), 1025),
		"no key":                         {put("a", ""), put("", "x")},
		"a long key":                     {put(strings.Repeat("k", 129), "")},
		"a long value":                   {put("a", strings.Repeat("v", 1025)), put("b", "")},
		"gone with a value":              {{Key: "a", Value: "x", Gone: true}},
		"one that does not count is bad": {put("a", strings.Repeat("v", 1025)), put("a", "")},
	}
}

func TestRecordRefuses(t *testing.T) { // P13.1
	refuse := func(what string, seq uint64, l []api.Write, should api.Errno) {
		t.Helper()
		s, e := lsm.Record(seq, l)
		want(t, what, e, should)
		want(t, what, s, "")
	}
	for what, l := range refusedBatches() {
		for _, seq := range []uint64{0, 1, api.MaxSeq, math.MaxUint64} {
			refuse(what, seq, l, api.ErrCell)
		}
	}
	for _, seq := range []uint64{0, api.MaxSeq + 1, math.MaxUint64} {
		refuse("a sequence", seq, batch("a=1"), api.ErrArg)
	}
	for _, n := range []int{1, 2, 1024} {
		for _, size := range []int{0, 1, 1024} { // the longest are more than a log takes
			s, e := lsm.Record(1, many(n, size))
			want(t, "Record", e, api.OK)
			want(t, "its length", len(s) > n*(size+6), true)
			seq, l, e := lsm.Batch(s)
			want(t, "Batch", e, api.OK)
			want(t, "its sequence", seq, 1)
			wantList(t, "its writes", l, many(n, size))
		}
	}
}

// wantBatch is that a record is that of a batch, or of none: what is told of it comes out as that once more.
func wantBatch(t *testing.T, what, s string, is bool) {
	t.Helper()
	seq, l, e := lsm.Batch(s)
	if !is {
		want(t, what, e, api.ErrDamaged)
		want(t, what+": its sequence", seq, 0)
		want(t, what+": its writes", len(l), 0)
		return
	}
	want(t, what, e, api.OK)
	again, e := lsm.Record(seq, l)
	want(t, what+": Record", e, api.OK)
	want(t, what+": again", again, s)
}

// words is a record with numbers and texts as they come: an int is a varint, a string a text.
func words(l ...any) string {
	w := codec.NewWriter(1 << 21)
	for _, x := range l {
		switch v := x.(type) {
		case int:
			w.Varint(uint64(v))
		case string:
			w.Text(v)
		}
	}
	s, _ := w.Done()
	return s
}

func TestBatch(t *testing.T) { // P13.1
	seq, l, e := lsm.Batch(rec(t, 9, "b=2", "a=1", "c-", "b=3", "c=4", "a-"))
	want(t, "Batch", e, api.OK)
	want(t, "its sequence", seq, 9)
	wantList(t, "its writes", l, batch("a-", "b=3", "c=4"))
	for what, s := range map[string]string{
		"nothing":                "",
		"a sequence alone":       words(1),
		"no key":                 words(1, 0),
		"sequence 0":             words(0, 1, "a", 1),
		"a sequence beyond":      words(api.MaxSeq+1, 1, "a", 1),
		"fewer keys":             words(1, 2, "a", 1),
		"more keys":              words(1, 1, "a", 1, "b", 1),
		"something behind":       words(1, 1, "a", 1) + "x",
		"a nought behind":        words(1, 1, "a", 1) + "\x00",
		"keys that fall":         words(1, 2, "b", 1, "a", 1),
		"a key twice":            words(1, 2, "a", 0, "x", "a", 0, "x"),
		"another word":           words(1, 1, "a", 2),
		"a word of more bytes":   words(1, 1, "a", 128),
		"gone with a value":      words(1, 1, "a", 1, "x"),
		"no value":               words(1, 1, "a", 0),
		"an empty key":           words(1, 1, "", 1),
		"a long key":             words(1, 1, strings.Repeat("k", 129), 1),
		"a long value":           words(1, 1, "a", 0, strings.Repeat("v", 1025)),
		"a long sequence":        "\x81\x00" + words(1, "a", 1),
		"a long number of keys":  "\x01\x81\x00" + words("a", 1),
		"a long key's length":    "\x01\x01\x81\x00a\x01",
		"a long word":            "\x01\x01\x01a\x81\x00",
		"a long nought":          "\x01\x01\x01a\x80\x00\x00",
		"a long value's length":  "\x01\x01\x01a\x00\x81\x00x",
		"keys beyond all bytes":  words(1, math.MaxInt64, "a", 1),
		"a key beyond all bytes": "\x01\x01\xff\xff\xff\xff\xff\xff\xff\xff\x7fa\x01",
	} {
		wantBatch(t, what, s, false)
	}
	wantBatch(t, "one key", words(1, 1, "a", 1), true)
	var keys []any
	for _, w := range many(1025, 1) {
		keys = append(keys, w.Key, 1)
	}
	wantBatch(t, "1024 keys", words(append([]any{1, 1024}, keys[:2048]...)...), true)
	wantBatch(t, "1025 keys", words(append([]any{1, 1025}, keys...)...), false)
}

func TestBatchChanged(t *testing.T) { // P13.1: cut off, longer, each byte another one
	s := rec(t, 70000, "a=1", "abc=", "b-", "c="+strings.Repeat("v", 130), strings.Repeat("k", 128)+"-")
	wantBatch(t, "whole", s, true)
	for n := range len(s) {
		wantBatch(t, "cut off", s[:n], false)
	}
	for c := range 256 {
		wantBatch(t, "longer", s+string([]byte{byte(c)}), false)
	}
	for i := range len(s) {
		for c := range 256 {
			b := []byte(s)
			b[i] = byte(c)
			_, _, e := lsm.Batch(string(b))
			wantBatch(t, "changed", string(b), e == api.OK)
		}
	}
}

func TestRecordPlays(t *testing.T) { // P13.1: there and back
	r := rand.New(rand.NewSource(1))
	for range 2000 {
		var l []api.Write
		last := map[string]api.Write{}
		for range 1 + r.Intn(12) {
			w := put(string(rune('a'+r.Intn(6))), strings.Repeat("v", r.Intn(4)))
			if r.Intn(3) == 0 {
				w = gone(w.Key)
			}
			l = append(l, w)
			last[w.Key] = w
		}
		seq := 1 + r.Uint64()%api.MaxSeq
		s, e := lsm.Record(seq, l)
		want(t, "Record", e, api.OK)
		got, back, e := lsm.Batch(s)
		want(t, "Batch", e, api.OK)
		want(t, "its sequence", got, seq)
		want(t, "its keys", len(back), len(last))
		for i, w := range back {
			want(t, "a write", w, last[w.Key])
			want(t, "rising", i == 0 || back[i-1].Key < w.Key, true)
		}
	}
}
