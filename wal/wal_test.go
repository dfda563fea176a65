package wal_test

import (
	"bytes"
	"hash/crc32"
	"math"
	"math/rand"
	"strconv"
	"strings"
	"testing"

	"atrium/api"
	"atrium/wal"
)

// want fails the test, if what was told is not what should be.
func want[T comparable](t *testing.T, what string, got, should T) {
	t.Helper()
	if got != should {
		t.Errorf("%s: %v, not %v", what, got, should)
	}
}

// wantBytes is want of bytes.
func wantBytes(t *testing.T, what string, got []byte, should string) {
	t.Helper()
	if string(got) != should {
		t.Errorf("%s: %x, not %x", what, got, should)
	}
}

// fragment is one's bytes, as the chapter says them.
func fragment(kind byte, part string) string {
	sum := crc32.Checksum([]byte(string([]byte{kind})+part), crc32.MakeTable(crc32.Castagnoli))
	return string([]byte{byte(sum >> 24), byte(sum >> 16), byte(sum >> 8), byte(sum), byte(len(part) >> 8), byte(len(part)), kind}) + part
}

// text is n bytes, no two neighbours of them alike.
func text(n int) string {
	b := make([]byte, n)
	for i := range b {
		b[i] = byte(i*7 + i/256)
	}
	return string(b)
}

// zeros is n bytes 0.
func zeros(n int) string { return strings.Repeat("\x00", n) }

// writer is one behind so many bytes.
func writer(t *testing.T, size int) *wal.Writer {
	t.Helper()
	w, e := wal.NewWriter(size)
	want(t, "NewWriter of "+strconv.Itoa(size), e, api.OK)
	return w
}

// laid is the bytes of records, laid one behind the other from the begin on, and where each of them ends.
func laid(t *testing.T, recs ...string) ([]byte, []int) {
	t.Helper()
	w := writer(t, 0)
	var all []byte
	var ends []int
	for _, rec := range recs {
		b, e := w.Lay(rec)
		want(t, "Lay", e, api.OK)
		all = append(all, b...)
		ends = append(ends, len(all))
		want(t, "Size", w.Size(), len(all))
	}
	return all, ends
}

func TestNewWriter(t *testing.T) { // P5.1
	for _, size := range []int{0, 1, 1016, 1017, 1018, 1023, 1024, 1025, api.MaxFile - 1, api.MaxFile} {
		want(t, "Size", writer(t, size).Size(), size)
	}
	for _, size := range []int{-1, -api.MaxFile, math.MinInt, api.MaxFile + 1, math.MaxInt} {
		w, e := wal.NewWriter(size)
		want(t, "NewWriter of "+strconv.Itoa(size), e, api.ErrArg)
		want(t, "no writer", w, nil)
	}
}

func TestLayOneFragment(t *testing.T) { // P5.1
	w := writer(t, 0)
	b, e := w.Lay("abc")
	want(t, "Lay", e, api.OK)
	wantBytes(t, "three bytes", b, fragment(1, "abc"))
	wantBytes(t, "behind the sum", b[4:], "\x00\x03\x01abc")
	b, _ = w.Lay("")
	wantBytes(t, "no bytes", b, fragment(1, ""))
	b, _ = w.Lay("\x00\xff\x00")
	wantBytes(t, "any bytes", b, fragment(1, "\x00\xff\x00"))
	want(t, "Size", w.Size(), 27)
	b, _ = w.Lay(text(300))
	wantBytes(t, "a length of two bytes", b, fragment(1, text(300)))
	b, e = w.Lay(text(1024 - 27 - 307 - 7))
	want(t, "Lay", e, api.OK)
	wantBytes(t, "what fills the block", b, fragment(1, text(683)))
	want(t, "Size", w.Size(), 1024)
	b, _ = w.Lay("z")
	wantBytes(t, "behind a full block", b, fragment(1, "z"))
}

func TestLayAtABlocksEnd(t *testing.T) { // P5.1, P5.2
	for _, block := range []int{0, 1, 7, 1022} {
		for left := range 12 {
			at := 1024*(block+1) - left
			ahead, room := "", left-7
			if left < 7 {
				ahead, room = zeros(left), 1017
			}
			for _, n := range []int{0, 1, 2, 3, 4, 5, 6, 1000} {
				should := ahead + fragment(1, text(n))
				if n > room {
					should = ahead + fragment(2, text(room)) + fragment(4, text(n)[room:])
				}
				w := writer(t, at)
				b, e := w.Lay(text(n))
				want(t, "Lay", e, api.OK)
				wantBytes(t, strconv.Itoa(n)+" with "+strconv.Itoa(left)+" left", b, should)
				want(t, "Size", w.Size(), at+len(should))
				size, e := wal.Length(at, n)
				want(t, "Length", size, len(should))
				want(t, "Length", e, api.OK)
			}
		}
	}
}

func TestLaySeveralFragments(t *testing.T) { // P5.1
	const room = 1017
	r := text(3 * room)
	for _, x := range []struct {
		at, n  int
		should string
	}{
		{0, room, fragment(1, r[:room])},
		{0, room + 1, fragment(2, r[:room]) + fragment(4, r[room:room+1])},
		{0, 2 * room, fragment(2, r[:room]) + fragment(4, r[room:2*room])},
		{0, 2*room + 1, fragment(2, r[:room]) + fragment(3, r[room:2*room]) + fragment(4, r[2*room:2*room+1])},
		{0, 3 * room, fragment(2, r[:room]) + fragment(3, r[room:2*room]) + fragment(4, r[2*room:])},
		{1024 - 10, 3, fragment(1, r[:3])},
		{1024 - 10, 3 + room, fragment(2, r[:3]) + fragment(4, r[3:3+room])},
		{1024 - 10, 4 + room, fragment(2, r[:3]) + fragment(3, r[3:3+room]) + fragment(4, r[3+room:4+room])},
		{1024 - 7, room, fragment(2, "") + fragment(4, r[:room])},
		{1024 - 7, room + 1, fragment(2, "") + fragment(3, r[:room]) + fragment(4, r[room:room+1])},
		{1024 - 6, room + 1, zeros(6) + fragment(2, r[:room]) + fragment(4, r[room:room+1])},
	} {
		b, e := writer(t, x.at).Lay(r[:x.n])
		want(t, "Lay", e, api.OK)
		wantBytes(t, strconv.Itoa(x.n)+" behind "+strconv.Itoa(x.at), b, x.should)
	}
}

func TestLayAtMaxRecord(t *testing.T) { // P5.1
	w := writer(t, 5)
	for _, n := range []int{api.MaxRecord + 1, api.MaxRecord + 1000} {
		b, e := w.Lay(text(n))
		want(t, "beyond it", e, api.ErrLong)
		want(t, "no bytes", len(b), 0)
		want(t, "Size", w.Size(), 5)
	}
	b, e := w.Lay(text(api.MaxRecord))
	want(t, "at it", e, api.OK)
	want(t, "Size", w.Size(), 5+len(b))
	n, e := wal.Length(5, api.MaxRecord)
	want(t, "Length", n, len(b))
	want(t, "Length", e, api.OK)
	all, _ := laid(t, text(api.MaxRecord))
	recs, end, why := wal.Scan(all)
	want(t, "found again", len(recs) == 1 && recs[0] == text(api.MaxRecord), true)
	want(t, "its end", end, len(all))
	want(t, "why", why, api.EndWhole)
}

func TestLayAtMaxFile(t *testing.T) { // P5.1
	for left := range 3000 {
		at := api.MaxFile - left
		most := -1 // the longest record for which there is room; MaxFile is a block's end
		for n := 0; n <= left; n++ {
			if size, _ := wal.Length(at, n); size <= left {
				most = n
			}
		}
		if left < 7 {
			want(t, "no room for any", most, -1)
		}
		w := writer(t, at)
		b, e := w.Lay(text(most + 1))
		want(t, "beyond it", e, api.ErrLong)
		want(t, "no bytes", len(b), 0)
		want(t, "Size", w.Size(), at)
		if most >= 0 {
			b, e = w.Lay(text(most))
			want(t, "at it, behind a refusal", e, api.OK)
			want(t, "to the end", at+len(b), api.MaxFile)
			want(t, "Size", w.Size(), api.MaxFile)
			_, e = w.Lay("")
			want(t, "no room any more", e, api.ErrLong)
			want(t, "Size", w.Size(), api.MaxFile)
		}
	}
}

func TestLayBothErrorsAreOne(t *testing.T) { // P5.1
	w := writer(t, api.MaxFile)
	_, e := w.Lay(text(api.MaxRecord + 1))
	want(t, "Lay", e, api.ErrLong)
	want(t, "Size", w.Size(), api.MaxFile)
}

func TestLength(t *testing.T) { // P5.2
	for _, x := range []struct{ at, n, size int }{
		{0, 0, 7}, {0, 3, 10}, {0, 1017, 1024}, {0, 1018, 1018 + 14}, {1, 1017, 1017 + 14},
		{1024, 0, 7}, {1018, 0, 6 + 7}, {1017, 0, 7}, {1017, 1, 7 + 8}, {1016, 1, 8}, {1016, 2, 8 + 8},
		{1023, 1017, 1 + 1024}, {1023, 1018, 1 + 1018 + 14}, {2047, 0, 1 + 7}, {2048, 5, 12},
		{0, api.MaxRecord, api.MaxRecord + 7*258},
		{api.MaxFile, 0, 7}, {api.MaxFile - 1, 0, 8}, {api.MaxFile, api.MaxRecord, api.MaxRecord + 7*258}, // how many they would be: Lay has no room for them
	} {
		n, e := wal.Length(x.at, x.n)
		want(t, "Length behind "+strconv.Itoa(x.at)+" of "+strconv.Itoa(x.n), n, x.size)
		want(t, "Length", e, api.OK)
	}
}

func TestLengthRefuses(t *testing.T) { // P5.2
	for _, x := range [][2]int{
		{-1, 0}, {math.MinInt, 0}, {api.MaxFile + 1, 0}, {math.MaxInt, 0},
		{0, -1}, {0, math.MinInt}, {0, api.MaxRecord + 1}, {0, math.MaxInt},
		{-1, -1}, {math.MaxInt, math.MaxInt}, {math.MinInt, math.MinInt},
	} {
		n, e := wal.Length(x[0], x[1])
		want(t, "Length", e, api.ErrArg)
		want(t, "Length", n, 0)
	}
}

func TestLengthIsLays(t *testing.T) { // P5.2
	r := rand.New(rand.NewSource(2))
	for at := range 2049 {
		for range 8 {
			n := r.Intn([]int{10, 1030, 4000}[r.Intn(3)])
			b, e := writer(t, at).Lay(text(n))
			size, f := wal.Length(at, n)
			if len(b) != size || e != api.OK || f != api.OK {
				t.Fatalf("behind %d of %d: %d, not %d", at, n, size, len(b))
			}
		}
	}
}

func TestNilWriter(t *testing.T) { // P5.5
	var w *wal.Writer
	for _, rec := range []string{"", "abc", text(api.MaxRecord + 1)} {
		b, e := w.Lay(rec)
		want(t, "Lay", e, api.ErrClosed)
		want(t, "Lay", len(b), 0)
		want(t, "Size", w.Size(), 0)
	}
}

func TestLayIsNewMemory(t *testing.T) { // R3
	w := writer(t, 1020)
	one, _ := w.Lay("one")
	kept := bytes.Clone(one)
	all := one[:cap(one)]
	for i := range all {
		all[i] = 0xee
	}
	two, _ := w.Lay("two")
	wantBytes(t, "the next one", two, fragment(1, "two"))
	other, _ := writer(t, 1020).Lay("one")
	wantBytes(t, "the same again", other, string(kept))
	want(t, "Size", w.Size(), 1020+14+10)
}

func TestWritersApart(t *testing.T) { // R4
	v, w := writer(t, 1000), writer(t, 1000)
	a, _ := v.Lay(text(50))
	b, _ := w.Lay(text(50))
	wantBytes(t, "the same", a, string(b))
	v.Lay("more")
	want(t, "its own", w.Size(), 1000+len(b))
}

func TestExamples(t *testing.T) { // the chapter's examples
	b, _ := writer(t, 0).Lay("abc")
	want(t, "a record of 3 bytes", len(b), 10)
	for at, n := range map[int]int{1020: 14, 1017: 17} {
		size, e := wal.Length(at, 3)
		want(t, "Length", size, n)
		want(t, "Length", e, api.OK)
	}
	b, _ = writer(t, 1020).Lay("abc")
	wantBytes(t, "4 bytes 0, and 10", b, zeros(4)+fragment(1, "abc"))
	b, _ = writer(t, 1017).Lay("abc")
	wantBytes(t, "a first fragment of no bytes", b, fragment(2, "")+fragment(4, "abc"))
}
