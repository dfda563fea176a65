package codec_test

import (
	"math"
	"math/rand"
	"slices"
	"strings"
	"testing"

	"atrium/api"
	"atrium/codec"
)

func number(n uint64) api.Part { return api.Part{Num: n, IsNum: true} }

func text(s string) api.Part { return api.Part{Text: s} }

// keyOf is the key of parts that may be.
func keyOf(t *testing.T, parts ...api.Part) string {
	t.Helper()
	k, e := codec.Key(parts)
	if e != api.OK {
		t.Fatal(parts, e)
	}
	return k
}

func TestKey(t *testing.T) { // P2.4
	for _, x := range []struct {
		parts []api.Part
		key   string
	}{
		{nil, ""},
		{[]api.Part{number(1), text("a")}, "\x01\x00\x00\x00\x00\x00\x00\x00\x01\x02a\x00"},
		{[]api.Part{number(0)}, "\x01\x00\x00\x00\x00\x00\x00\x00\x00"},
		{[]api.Part{number(math.MaxUint64)}, "\x01\xff\xff\xff\xff\xff\xff\xff\xff"},
		{[]api.Part{number(0x0102030405060708)}, "\x01\x01\x02\x03\x04\x05\x06\x07\x08"},
		{[]api.Part{text("")}, "\x02\x00"},
		{[]api.Part{{}}, "\x02\x00"},
		{[]api.Part{text("\x00")}, "\x02\x00\xff\x00"},
		{[]api.Part{text("\xff")}, "\x02\xff\x00"},
		{[]api.Part{text("a\x00\x00b\x00")}, "\x02a\x00\xff\x00\xffb\x00\xff\x00"},
		{[]api.Part{text("\x00\xff\x00")}, "\x02\x00\xff\xff\x00\xff\x00"},
		{[]api.Part{text("\x01"), text("\x02")}, "\x02\x01\x00\x02\x02\x00"},
		{slices.Repeat([]api.Part{text("")}, 8), strings.Repeat("\x02\x00", 8)},
		{[]api.Part{text(strings.Repeat("k", 1000))}, "\x02" + strings.Repeat("k", 1000) + "\x00"},
	} {
		k, e := codec.Key(x.parts)
		wantText(t, "Key", k, x.key)
		want(t, "Key", e, api.OK)
		l, e := codec.Split(x.key)
		want(t, "Split", e, api.OK)
		want(t, "Split", slices.Equal(l, x.parts), true)
		from, to, e := codec.Range(x.parts)
		wantText(t, "from", from, x.key)
		wantText(t, "to", to, x.key+"\xff")
		want(t, "Range", e, api.OK)
	}
}

func TestKeyRefuses(t *testing.T) { // P2.4
	both := []api.Part{{Text: "a", Num: 1, IsNum: true}, {Text: "a", IsNum: true}, {Text: "a", Num: 1}, {Num: 1}, {Num: math.MaxUint64}}
	for _, p := range both {
		for _, x := range []struct {
			parts []api.Part
			e     api.Errno
		}{
			{[]api.Part{p}, api.ErrArg},
			{[]api.Part{text("a"), number(1), p}, api.ErrArg},
			{append(slices.Repeat([]api.Part{number(1)}, 7), p), api.ErrArg},
			{append(slices.Repeat([]api.Part{number(1)}, 8), p), api.ErrLong},
			{slices.Repeat([]api.Part{p}, 9), api.ErrLong},
			{slices.Repeat([]api.Part{text("")}, 9), api.ErrLong},
		} {
			k, e := codec.Key(x.parts)
			want(t, "Key", e, x.e)
			wantText(t, "Key", k, "")
			from, to, e := codec.Range(x.parts)
			want(t, "Range", e, x.e)
			wantText(t, "Range", from+to, "")
		}
	}
}

func TestSplitRefuses(t *testing.T) { // P2.4
	eight := strings.Repeat("\x02a\x00", 8)
	for _, x := range []struct {
		key string
		e   api.Errno
	}{
		{"\x01", api.ErrShort},
		{"\x01\x00\x00\x00\x00\x00\x00\x00", api.ErrShort},
		{"\x02", api.ErrShort},
		{"\x02a", api.ErrShort},
		{"\x02a\x00\xff", api.ErrShort},
		{"\x02a\x00\x02", api.ErrShort},
		{"\x02a\x00\x01\x00", api.ErrShort},
		{"\x02\x00\xff\x00\xffa", api.ErrShort},
		{"\x00", api.ErrForm},
		{"\x03", api.ErrForm},
		{"\xff", api.ErrForm},
		{"a", api.ErrForm},
		{"\x02a\x00\x00", api.ErrForm},
		{"\x02a\x00\x03", api.ErrForm},
		{"\x02a\x00\x00\xff", api.ErrForm},
		{"\x01\x00\x00\x00\x00\x00\x00\x00\x00\xff", api.ErrForm},
		{"\x02a\x00b\x02", api.ErrForm},
		{eight + "\x02a\x00", api.ErrLong},
		{eight + "\x01\x00\x00\x00\x00\x00\x00\x00\x00", api.ErrLong},
		{eight + "\x02", api.ErrLong}, // a ninth one begins ahead of the end
		{eight + "\x01", api.ErrLong},
		{eight + "\x02a\x00\x03", api.ErrLong},
		{eight + "\x03", api.ErrForm}, // no ninth one begins
		{eight + "\x00", api.ErrForm},
		{eight[3:] + "\x02", api.ErrShort},
		{eight[3:] + "\x03" + eight, api.ErrForm},
	} {
		l, e := codec.Split(x.key)
		if e != x.e || len(l) != 0 {
			t.Errorf("Split of %x: %v, %v, not %v", x.key, l, e, x.e)
		}
	}
	for n := range len(eight) { // whatever is cut off is short, unless it is whole parts
		_, e := codec.Split(eight[:n])
		want(t, "cut off", e == api.OK, n%3 == 0)
		want(t, "cut off", e == api.ErrShort, n%3 != 0)
	}
}

// compareParts is the order of P2.8.
func compareParts(a, b []api.Part) int {
	return slices.CompareFunc(a, b, func(x, y api.Part) int {
		switch {
		case x.IsNum && !y.IsNum:
			return -1
		case !x.IsNum && y.IsNum:
			return 1
		case x.IsNum && x.Num < y.Num:
			return -1
		case x.IsNum && x.Num > y.Num:
			return 1
		}
		return strings.Compare(x.Text, y.Text)
	})
}

// randomParts is parts of which many are alike.
func randomParts(r *rand.Rand) []api.Part {
	var l []api.Part
	for range r.Intn(api.MaxParts + 1) {
		if r.Intn(2) == 0 {
			l = append(l, number([]uint64{0, 1, 255, 256, math.MaxUint64, r.Uint64() >> r.Intn(64)}[r.Intn(6)]))
		} else {
			l = append(l, text(randomText(r, 3)))
		}
	}
	return l
}

// alike is parts that begin as others do.
func alike(r *rand.Rand, l []api.Part) []api.Part {
	n := r.Intn(len(l) + 1)
	m := append(slices.Clone(l[:n]), randomParts(r)...)
	if n < len(l) && !l[n].IsNum && r.Intn(2) == 0 {
		m = append(slices.Clone(l[:n]), text(l[n].Text+randomText(r, 2)))
	}
	return m[:min(len(m), api.MaxParts)]
}

func TestKeysKeepOrder(t *testing.T) { // P2.8
	r := rand.New(rand.NewSource(9))
	for range 20000 {
		a := randomParts(r)
		b := alike(r, a)
		if got := strings.Compare(keyOf(t, a...), keyOf(t, b...)); got != compareParts(a, b) {
			t.Fatal("order", a, b, got)
		}
		back, e := codec.Split(keyOf(t, a...))
		if e != api.OK || !slices.Equal(back, a) {
			t.Fatal("Split of Key", a, back, e)
		}
	}
}

func TestOrderOfNeighbours(t *testing.T) { // P2.8
	l := []string{
		keyOf(t), keyOf(t, number(0)), keyOf(t, number(0), number(0)), keyOf(t, number(0), text("")), keyOf(t, number(1)), keyOf(t, number(255)), keyOf(t, number(256)), keyOf(t, number(math.MaxUint64)), keyOf(t, number(math.MaxUint64), text("\xff")),
		keyOf(t, text("")), keyOf(t, text(""), number(0)), keyOf(t, text(""), text("z")), keyOf(t, text("\x00")), keyOf(t, text("\x00"), text("z")), keyOf(t, text("\x00\x00")), keyOf(t, text("\x00\x01")), keyOf(t, text("\x00\xff")), keyOf(t, text("\x01")),
		keyOf(t, text("a")), keyOf(t, text("a"), number(9)), keyOf(t, text("a"), text("\xff\xff")), keyOf(t, text("a\x00")), keyOf(t, text("a\x00"), text("b")), keyOf(t, text("a\x01")), keyOf(t, text("aa")), keyOf(t, text("b")), keyOf(t, text("\xff")), keyOf(t, text("\xff\xff")),
	}
	for i := range len(l) - 1 {
		if l[i] >= l[i+1] {
			t.Errorf("%x is not below %x", l[i], l[i+1])
		}
	}
}

func TestKeyOfSplit(t *testing.T) { // P2.8: all short keys of bytes that count
	var all func(s string, n int)
	all = func(s string, n int) {
		if l, e := codec.Split(s); e == api.OK {
			wantText(t, "Key of Split", keyOf(t, l...), s)
		}
		for _, c := range []byte{0, 1, 2, 3, 0xff} {
			if n > 0 {
				all(s+string([]byte{c}), n-1)
			}
		}
	}
	all("", 6)
	all("\x01\x00\x00\x00\x00\x00\x00\x00", 5)
}

func TestRangeHoldsWhatBeginsSo(t *testing.T) { // P2.4
	r := rand.New(rand.NewSource(10))
	for range 20000 {
		a := randomParts(r)
		b := alike(r, a)
		from, to, e := codec.Range(a)
		want(t, "Range", e, api.OK)
		k := keyOf(t, b...)
		begins := len(b) >= len(a) && slices.Equal(b[:len(a)], a)
		if in := from <= k && k < to; in != begins {
			t.Fatal("Range", a, b, in)
		}
	}
}

func TestPartsStay(t *testing.T) { // R3
	room := []api.Part{number(1), text("a\x00"), text("behind")}
	keyOf(t, room[:2]...)
	codec.Range(room[:2])
	want(t, "the parts, and the room behind them", slices.Equal(room, []api.Part{number(1), text("a\x00"), text("behind")}), true)
	k := keyOf(t, room...)
	l, _ := codec.Split(k)
	m, _ := codec.Split(k)
	l[0].Num = 7
	clear(l[:cap(l)])
	want(t, "another answer", slices.Equal(m, room), true)
}
