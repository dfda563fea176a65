package filter_test

import (
	"bytes"
	"encoding/hex"
	"math"
	"slices"
	"strconv"
	"strings"
	"testing"

	"atrium/api"
	"atrium/filter"
)

// want fails the test, if what was told is not what should be.
func want[T comparable](t *testing.T, what string, got, should T) {
	t.Helper()
	if got != should {
		t.Errorf("%s: %v, not %v", what, got, should)
	}
}

// wantBytes is want of bytes.
func wantBytes(t *testing.T, what string, got, should []byte) {
	t.Helper()
	if !bytes.Equal(got, should) {
		t.Errorf("%s: %.200x, not %.200x", what, got, should)
	}
}

// numbered is keys that are all unlike.
func numbered(n int) []string {
	l := make([]string, n)
	for i := range l {
		l[i] = "k" + strconv.Itoa(i)
	}
	return l
}

// built is Build, which is to be OK.
func built(t *testing.T, bits int, keys ...string) []byte {
	t.Helper()
	b, e := filter.Build(keys, bits)
	want(t, "Build", e, api.OK)
	return b
}

// bare is bytes of so many 0 bits, and a last byte.
func bare(size int, k byte) []byte {
	return append(make([]byte, size), k)
}

// none is bytes that are no filter.
func none() [][]byte {
	l := [][]byte{nil, {}}
	for size := 1; size < 9; size++ {
		for _, c := range []byte{0, 1, 6, 30, 31, 255} {
			l = append(l, bytes.Repeat([]byte{c}, size))
		}
	}
	for _, size := range []int{8, 9, 10, 100} {
		for _, k := range []byte{0, 31, 32, 128, 255} {
			l = append(l, bare(size, k), append(bytes.Repeat([]byte{0xff}, size), k))
		}
	}
	return l
}

func TestBuildRefuses(t *testing.T) { // P7.1
	many := numbered(api.MaxCells + 1)
	for _, keys := range [][]string{nil, {"a"}, many[:api.MaxCells], many} {
		for _, bits := range []int{0, -1, -32, math.MinInt, api.MaxBits + 1, 256, 257, math.MaxInt} {
			b, e := filter.Build(keys, bits)
			want(t, "bits "+strconv.Itoa(bits), e, api.ErrArg)
			want(t, "no bytes", len(b), 0)
		}
	}
	for _, bits := range []int{1, 2, 10, api.MaxBits} {
		b, e := filter.Build(many, bits)
		want(t, "beyond MaxCells", e, api.ErrLong)
		want(t, "no bytes", len(b), 0)
	}
	b, e := filter.Build(make([]string, 3*api.MaxCells), 1)
	want(t, "far beyond MaxCells", e, api.ErrLong)
	want(t, "no bytes", len(b), 0)
}

func TestBuildAtTheLimits(t *testing.T) { // P7.1
	all := numbered(api.MaxCells)
	for bits, size := range map[int]int{1: 8192, api.MaxBits: 262144} {
		b := built(t, bits, all...)
		want(t, "bytes", len(b), size+1)
		want(t, "Check", filter.Check(b), api.OK)
		for _, key := range all {
			if !filter.May(b, key) {
				t.Fatal("a false no of " + key)
			}
		}
	}
}

func TestBuildSizes(t *testing.T) { // P7.1: how many bits and places there are
	ks := []byte{1, 1, 2, 2, 3, 4, 4, 5, 6, 6, 7, 8, 8, 9, 10, 11, 11, 12, 13, 13, 14, 15, 15, 16, 17, 17, 18, 19, 20, 20, 21, 22}
	want(t, "all bits", len(ks), api.MaxBits)
	for i, k := range ks {
		b := built(t, i+1)
		wantBytes(t, "of nothing", b, bare(8, k))
		b = built(t, i+1, "a")
		want(t, "places of "+strconv.Itoa(i+1), b[8], k)
	}
	for _, x := range []struct{ keys, bits, size int }{
		{0, 32, 8}, {1, 32, 8}, {2, 32, 8}, {3, 32, 12}, {1, 1, 8}, {63, 1, 8}, {64, 1, 8}, {65, 1, 9}, {72, 1, 9}, {73, 1, 10},
		{6, 10, 8}, {7, 10, 9}, {8, 10, 10}, {9, 7, 8}, {10, 7, 9}, {13, 5, 9}, {21, 3, 8}, {22, 3, 9}, {32, 2, 8}, {33, 2, 9}, {100, 10, 125}, {101, 10, 127},
	} {
		b := built(t, x.bits, numbered(x.keys)...)
		want(t, strconv.Itoa(x.keys)+" keys by "+strconv.Itoa(x.bits), len(b), x.size+1)
	}
}

func TestBuildBytes(t *testing.T) { // P7.1: bytes that were worked out apart from the program
	for _, x := range []struct {
		hex  string
		bits int
		keys []string
	}{
		{"3f0000000000000006", 10, []string{""}},
		{"00c00f000000000006", 10, []string{"a"}},
		{"00d13f0102c2200806", 10, []string{"a", "b", "c"}},
		{"000008000000000001", 1, []string{"a"}},
		{"ffff0f00000000c016", 32, []string{"a"}},
		{"50ff2b00a0fe15000d", 20, []string{"\x00\xff", strings.Repeat("abc", 50)}},
		{"68a470085116fdb8cec800c225862406", 10, numbered(12)},
	} {
		should, _ := hex.DecodeString(x.hex)
		wantBytes(t, x.hex, built(t, x.bits, x.keys...), should)
	}
}

func TestCheck(t *testing.T) { // P7.1
	for _, b := range none() {
		want(t, "Check of "+hex.EncodeToString(b), filter.Check(b), api.ErrFilter)
	}
	for k := range 256 {
		should := api.ErrFilter
		if k >= 1 && k <= 30 {
			should = api.OK
		}
		for _, size := range []int{8, 9, 15, 16, 1000} {
			want(t, "a last byte of "+strconv.Itoa(k), filter.Check(bare(size, byte(k))), should)
		}
		want(t, "8 bytes", filter.Check(bare(7, byte(k))), api.ErrFilter)
	}
	for _, size := range []int{262141, 262144, 262145, 300000} { // no Build has the first one's bits, nor more than the second one's
		want(t, "of "+strconv.Itoa(size), filter.Check(bare(size, 22)), api.OK)
	}
}

func TestMayOfNone(t *testing.T) { // P7.1
	for _, b := range none() {
		for _, key := range []string{"", "a", "abc"} {
			want(t, "May of "+hex.EncodeToString(b), filter.May(b, key), true)
		}
	}
}

func TestMayOfNothing(t *testing.T) { // P7.1
	for _, b := range [][]byte{built(t, 1), built(t, 10), built(t, 32), bare(8, 1), bare(9, 30), bare(262145, 7)} {
		for _, key := range []string{"", "a", "abc", strings.Repeat("x", 1000)} {
			want(t, "of no bits", filter.May(b, key), false)
		}
	}
}

func TestOnes(t *testing.T) { // P7.1
	for _, b := range none() {
		want(t, "Ones of "+hex.EncodeToString(b), filter.Ones(b), 0)
	}
	want(t, "none", filter.Ones(built(t, 10)), 0)
	want(t, "all", filter.Ones(append(bytes.Repeat([]byte{0xff}, 8), 30)), 64)
	want(t, "all", filter.Ones(append(bytes.Repeat([]byte{0xff}, 300000), 1)), 2400000)
	for place := range 72 {
		b := bare(9, 15)
		b[place/8] = 1 << (place % 8)
		want(t, "one", filter.Ones(b), 1)
		b[8-place/8] |= 0x55
		want(t, "some more", filter.Ones(b) >= 4 && filter.Ones(b) <= 5, true)
	}
	want(t, "no places", filter.Ones([]byte{1, 2, 3, 4, 5, 6, 7, 8, 30}), 1+1+2+1+2+2+3+1)
	want(t, "a key's", filter.Ones(built(t, 10, "a")), 6)
	want(t, "three keys', two of whose places are one", filter.Ones(built(t, 10, "a", "b", "c")), 17)
}

func TestMerge(t *testing.T) { // P7.2
	a := []byte{1, 2, 4, 8, 0, 0xf0, 0, 0xaa, 6}
	b := []byte{1, 1, 1, 1, 0, 0x0f, 9, 0x55, 6}
	m, e := filter.Merge(a, b)
	want(t, "Merge", e, api.OK)
	wantBytes(t, "Merge", m, []byte{1, 3, 5, 9, 0, 0xff, 9, 0xff, 6})
	m, e = filter.Merge(b, a)
	want(t, "the other way round", e, api.OK)
	wantBytes(t, "the other way round", m, []byte{1, 3, 5, 9, 0, 0xff, 9, 0xff, 6})
	for _, k := range []byte{1, 2, 29, 30} {
		x, y := bare(9, k), bare(9, k)
		x[0], y[8] = 0x80, 1
		m, e = filter.Merge(x, y)
		want(t, "Merge", e, api.OK)
		wantBytes(t, "Merge", m, []byte{0x80, 0, 0, 0, 0, 0, 0, 0, 1, k})
	}
	m, e = filter.Merge(bare(300000, 7), bare(300000, 7))
	want(t, "beyond what Build gives", e, api.OK)
	wantBytes(t, "beyond what Build gives", m, bare(300000, 7))
}

func TestMergeRefuses(t *testing.T) { // P7.2
	good := bare(8, 6)
	refuse := func(a, b []byte) {
		t.Helper()
		m, e := filter.Merge(a, b)
		want(t, "Merge", e, api.ErrFilter)
		want(t, "no bytes", len(m), 0)
	}
	for _, b := range none() {
		refuse(b, good)
		refuse(good, b)
		refuse(b, b)
	}
	for _, b := range [][]byte{bare(9, 6), bare(16, 6), bare(100, 6)} {
		refuse(good, b)
		refuse(b, good)
	}
	for k := byte(1); k <= 30; k++ {
		if k != 6 {
			refuse(good, bare(8, k))
			refuse(bare(8, k), good)
		}
	}
	refuse(built(t, 10, "a"), built(t, 10, numbered(7)...))
	refuse(built(t, 10, "a"), built(t, 11, "a"))
	m, e := filter.Merge(built(t, 9), built(t, 10))
	want(t, "unlike bits, but as many places", e, api.OK)
	wantBytes(t, "unlike bits, but as many places", m, bare(8, 6))
}

func TestArgumentsStay(t *testing.T) { // R3: also what lies behind a list's end
	keys := []string{"a", "b", "c", "behind"}
	b := built(t, 10, keys[:3]...)
	wantKeys := []string{"a", "b", "c", "behind"}
	want(t, "keys", slices.Equal(keys, wantKeys), true)
	room := append(slices.Clone(b), 1, 2, 3)
	other := append(built(t, 10, "d"), 4, 5, 6)
	was, otherWas := slices.Clone(room), slices.Clone(other)
	filter.May(room[:9], "x")
	filter.Check(room[:9])
	filter.Ones(room[:9])
	filter.Merge(room[:9], other[:9])
	filter.Merge(room[:9], room[:9])
	wantBytes(t, "the one", room, was)
	wantBytes(t, "the other", other, otherWas)
}

func TestAnswersAreNew(t *testing.T) { // R3
	spoil := func(b []byte) {
		all := b[:cap(b)]
		for i := range all {
			all[i] = 0xee
		}
	}
	b := built(t, 10, "a")
	was := slices.Clone(b)
	spoil(built(t, 10, "a"))
	wantBytes(t, "Build", b, was)
	c := built(t, 10, "b")
	m, _ := filter.Merge(b, c)
	kept := slices.Clone(m)
	again, _ := filter.Merge(b, c)
	spoil(again)
	wantBytes(t, "Merge", m, kept)
	wantBytes(t, "merged", b, was)
	same, _ := filter.Merge(b, b)
	spoil(same)
	wantBytes(t, "merged with itself", b, was)
	spoil(b)
	spoil(c)
	wantBytes(t, "behind changed arguments", m, kept)
}

func TestExamples(t *testing.T) { // the chapter's example
	b := built(t, 10)
	wantBytes(t, "of nothing", b, []byte{0, 0, 0, 0, 0, 0, 0, 0, 6})
	want(t, "9 bytes", len(b), 9)
	for _, key := range append(numbered(100), "", "a") {
		want(t, "May", filter.May(b, key), false)
	}
}
