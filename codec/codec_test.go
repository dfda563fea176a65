package codec_test

import (
	"hash/crc32"
	"math"
	"math/rand"
	"strconv"
	"strings"
	"testing"

	"atrium/api"
	"atrium/codec"
)

// want fails the test, if what was told is not what should be.
func want[T comparable](t *testing.T, what string, got, should T) {
	t.Helper()
	if got != should {
		t.Errorf("%s: %v, not %v", what, got, should)
	}
}

// wantText is want of bytes.
func wantText(t *testing.T, what, got, should string) {
	t.Helper()
	if got != should {
		t.Errorf("%s: %x, not %x", what, got, should)
	}
}

// wantDone is what a writer should have.
func wantDone(t *testing.T, what string, w *codec.Writer, should string) {
	t.Helper()
	s, e := w.Done()
	wantText(t, what, s, should)
	want(t, what, e, api.OK)
	want(t, what, w.Len(), len(should))
}

// wantOver is what a writer tells that is over.
func wantOver(t *testing.T, what string, w *codec.Writer) {
	t.Helper()
	s, e := w.Done()
	wantText(t, what, s, "")
	want(t, what, e, api.ErrLong)
	want(t, what, w.Len(), 0)
}

// randomText is up to so many bytes, many of them 0 and FF.
func randomText(r *rand.Rand, most int) string {
	b := make([]byte, r.Intn(most+1))
	for i := range b {
		b[i] = []byte{0, 0xff, 1, 2, 'a', byte(r.Intn(256))}[r.Intn(6)]
	}
	return string(b)
}

func TestCrc(t *testing.T) { // P2.1
	want(t, "example", codec.Crc("123456789"), 0xe3069283)
	want(t, "nothing", codec.Crc(""), 0)
	want(t, "32 noughts", codec.Crc(strings.Repeat("\x00", 32)), 0x8a9136aa) // RFC 3720
	want(t, "32 bytes FF", codec.Crc(strings.Repeat("\xff", 32)), 0x62a8ab43)
	table := crc32.MakeTable(crc32.Castagnoli)
	r := rand.New(rand.NewSource(1))
	for n := range 300 {
		b := make([]byte, n)
		r.Read(b)
		want(t, "of "+strconv.Itoa(n), codec.Crc(string(b)), crc32.Checksum(b, table))
	}
	for c := range 256 {
		want(t, "a byte", codec.Crc(string([]byte{byte(c)})), crc32.Checksum([]byte{byte(c)}, table))
	}
}

// put is one thing that is put, and its bytes.
type put struct {
	name  string
	do    func(w *codec.Writer)
	bytes string
}

func puts() []put {
	long := strings.Repeat("x", 128)
	return []put{
		{"U8", func(w *codec.Writer) { w.U8(0xfe) }, "\xfe"},
		{"U16", func(w *codec.Writer) { w.U16(0x0102) }, "\x01\x02"},
		{"U32", func(w *codec.Writer) { w.U32(0xf1020304) }, "\xf1\x02\x03\x04"},
		{"U64", func(w *codec.Writer) { w.U64(0xf102030405060708) }, "\xf1\x02\x03\x04\x05\x06\x07\x08"},
		{"U64 of 1", func(w *codec.Writer) { w.U64(1) }, "\x00\x00\x00\x00\x00\x00\x00\x01"},
		{"Varint of 0", func(w *codec.Writer) { w.Varint(0) }, "\x00"},
		{"Varint of 127", func(w *codec.Writer) { w.Varint(127) }, "\x7f"},
		{"Varint of 128", func(w *codec.Writer) { w.Varint(128) }, "\x80\x01"},
		{"Varint of 300", func(w *codec.Writer) { w.Varint(300) }, "\xac\x02"},
		{"Varint of most", func(w *codec.Writer) { w.Varint(math.MaxUint64) }, "\xff\xff\xff\xff\xff\xff\xff\xff\xff\x01"},
		{"Text", func(w *codec.Writer) { w.Text("ab") }, "\x02ab"},
		{"Text of nothing", func(w *codec.Writer) { w.Text("") }, "\x00"},
		{"Text of 128", func(w *codec.Writer) { w.Text(long) }, "\x80\x01" + long},
		{"Text of any bytes", func(w *codec.Writer) { w.Text("\x00\xff\xc3") }, "\x03\x00\xff\xc3"},
		{"Raw", func(w *codec.Writer) { w.Raw("a\x00\xff") }, "a\x00\xff"},
	}
}

func TestWriterPuts(t *testing.T) { // P2.2
	all := codec.NewWriter(1000)
	sum := ""
	for _, x := range puts() {
		w := codec.NewWriter(200)
		wantDone(t, "new", w, "")
		x.do(w)
		wantDone(t, x.name, w, x.bytes)
		x.do(all)
		sum += x.bytes
		wantDone(t, "one behind the other", all, sum)
		wantDone(t, "asked again", all, sum)
	}
}

func TestWriterAtItsLimit(t *testing.T) { // P2.2
	for _, x := range puts() {
		for _, begin := range []string{"", "b", "begin"} {
			w := codec.NewWriter(len(begin) + len(x.bytes))
			w.Raw(begin)
			x.do(w)
			wantDone(t, x.name+" at the limit", w, begin+x.bytes)
			w.Raw("")
			wantDone(t, "nothing behind it", w, begin+x.bytes)
			w.U8(1)
			wantOver(t, "one more", w)

			w = codec.NewWriter(len(begin) + len(x.bytes) - 1)
			w.Raw(begin)
			x.do(w)
			wantOver(t, x.name+" beyond it", w)
			w.Raw("")
			w.U8(1)
			w.Varint(1)
			w.Text("")
			wantOver(t, "it stays over", w)
		}
	}
}

func TestWriterOfNothing(t *testing.T) { // P2.2
	for _, most := range []int{0, -1, math.MinInt} {
		w := codec.NewWriter(most)
		wantDone(t, "new", w, "")
		w.Raw("")
		wantDone(t, "no bytes", w, "")
		w.Text("")
		wantOver(t, "a byte", w)
	}
	w := codec.NewWriter(math.MaxInt)
	w.Text("a")
	wantDone(t, "the greatest limit", w, "\x01a")
}

func TestWriterPutsBothOrNone(t *testing.T) { // P2.2: what would fit of a text, or behind one that did not, is not written
	w := codec.NewWriter(3)
	w.Text("abc")
	wantOver(t, "its number would fit", w)
	w = codec.NewWriter(4)
	w.U16(1)
	w.U32(1)
	w.U8(1)
	wantOver(t, "a smaller one behind", w)
}

func TestWriterGoesOn(t *testing.T) { // P2.2
	w := codec.NewWriter(4)
	w.Raw("ab")
	s, _ := w.Done()
	w.Raw("cd")
	wantText(t, "what was told stays", s, "ab")
	wantDone(t, "written further", w, "abcd")
}

// ask is one thing that a reader is asked.
type ask struct {
	name string
	do   func(r *codec.Reader) string
}

func asks() []ask {
	number := func(n uint64) string {
		if n == 0 {
			return ""
		}
		return strconv.FormatUint(n, 16)
	}
	return []ask{
		{"U8", func(r *codec.Reader) string { return number(uint64(r.U8())) }},
		{"U16", func(r *codec.Reader) string { return number(uint64(r.U16())) }},
		{"U32", func(r *codec.Reader) string { return number(uint64(r.U32())) }},
		{"U64", func(r *codec.Reader) string { return number(r.U64()) }},
		{"Varint", func(r *codec.Reader) string { return number(r.Varint()) }},
		{"Text", func(r *codec.Reader) string { return r.Text() }},
		{"Raw", func(r *codec.Reader) string { return r.Raw(3) }},
		{"Raw of 0", func(r *codec.Reader) string { return r.Raw(0) }},
		{"Raw below 0", func(r *codec.Reader) string { return r.Raw(-1) }},
	}
}

// stuck sees to it that a reader tells its first fault, and nothing else any more.
func stuck(t *testing.T, what string, r *codec.Reader, fault api.Errno) {
	t.Helper()
	for range 2 {
		want(t, what+": Err", r.Err(), fault)
		want(t, what+": Done", r.Done(), fault)
		want(t, what+": Left", r.Left(), 0)
		for _, x := range asks() {
			wantText(t, what+": "+x.name, x.do(r), "")
		}
	}
}

func TestReaderTells(t *testing.T) { // P2.3
	s := "\xfe\x01\x02\xf1\x02\x03\x04\xf1\x02\x03\x04\x05\x06\x07\x08\xac\x02\x02ab\x00xyz"
	r := codec.NewReader(s)
	left := len(s)
	took := func(what string, n int) {
		t.Helper()
		left -= n
		want(t, what+": Left", r.Left(), left)
		want(t, what+": Err", r.Err(), api.OK)
		want(t, what+": Done", r.Done(), map[bool]api.Errno{true: api.ErrRest, false: api.OK}[left > 0])
	}
	took("new", 0)
	want(t, "U8", r.U8(), 0xfe)
	took("U8", 1)
	want(t, "U16", r.U16(), 0x0102)
	took("U16", 2)
	want(t, "U32", r.U32(), 0xf1020304)
	took("U32", 4)
	want(t, "U64", r.U64(), 0xf102030405060708)
	took("U64", 8)
	want(t, "Varint", r.Varint(), 300)
	took("Varint", 2)
	want(t, "Text", r.Text(), "ab")
	took("Text", 3)
	want(t, "Text of nothing", r.Text(), "")
	took("Text of nothing", 1)
	want(t, "Raw", r.Raw(2), "xy")
	took("Raw", 2)
	want(t, "Raw of 0", r.Raw(0), "")
	took("Raw of 0", 0)
	want(t, "Raw", r.Raw(1), "z")
	took("Raw", 1)
	want(t, "Raw of 0 at the end", r.Raw(0), "")
	took("Raw of 0 at the end", 0)
}

func TestReaderShort(t *testing.T) { // P2.3
	whole := map[string]string{"U8": "1", "U16": "12", "U32": "1234", "U64": "12345678", "Varint": "\xff\xff\xff\xff\xff\xff\xff\xff\xff\x01", "Text": "\x83\x01" + strings.Repeat("x", 131), "Raw": "123"}
	for _, x := range asks() {
		s := whole[x.name]
		for n := range len(s) {
			r := codec.NewReader("b" + s[:n])
			r.U8()
			wantText(t, x.name, x.do(r), "")
			stuck(t, x.name+" of "+strconv.Itoa(n), r, api.ErrShort)
		}
	}
	for _, s := range []string{"\xff\xff\xff\xff\xff\xff\xff\xff\xff\x01abc", "\xff\xff\xff\xff\xff\xff\xff\xff\x7fabc", "\x80\x80\x80\x80\x80\x80\x80\x80\x80\x01abc", "\x04abc"} {
		r := codec.NewReader(s)
		wantText(t, "a text longer than all", r.Text(), "")
		stuck(t, "a text longer than all", r, api.ErrShort)
	}
	for _, n := range []int{4, math.MaxInt} {
		r := codec.NewReader("abc")
		wantText(t, "Raw", r.Raw(n), "")
		stuck(t, "Raw", r, api.ErrShort)
	}
}

func TestReaderRawBelowNought(t *testing.T) { // P2.3
	for _, n := range []int{-1, math.MinInt} {
		r := codec.NewReader("abc")
		wantText(t, "Raw", r.Raw(n), "")
		stuck(t, "Raw", r, api.ErrArg)
	}
}

func TestReaderKeepsItsFirstFault(t *testing.T) { // P2.3
	r := codec.NewReader("a")
	r.U16()
	r.Raw(-1)
	stuck(t, "short, then an argument", r, api.ErrShort)
	r = codec.NewReader("a")
	r.Raw(-1)
	r.U64()
	stuck(t, "an argument, then short", r, api.ErrArg)
	r = codec.NewReader("\x80\x00")
	r.Varint()
	r.U64()
	r.Raw(-1)
	stuck(t, "a form, then others", r, api.ErrForm)
}

func TestVarintsOfAllWidths(t *testing.T) { // P2.2, P2.3, P2.7
	for size := 1; size <= 10; size++ {
		least, most := uint64(1)<<(7*(size-1)), uint64(math.MaxUint64)
		if size == 1 {
			least = 0
		}
		if size < 10 {
			most = uint64(1)<<(7*size) - 1
		}
		for _, n := range []uint64{least, least + 1, most - 1, most} {
			w := codec.NewWriter(20)
			w.Varint(n)
			s, _ := w.Done()
			want(t, "its bytes", len(s), size)
			for i := range s {
				want(t, "the highest bit", s[i] >= 0x80, i < size-1)
			}
			r := codec.NewReader(s + "z")
			want(t, "back", r.Varint(), n)
			want(t, "Left", r.Left(), 1)
			for cut := range size {
				r := codec.NewReader(s[:cut])
				want(t, "cut off", r.Varint(), 0)
				stuck(t, "cut off", r, api.ErrShort)
			}
		}
	}
}

func TestVarintsOfAnotherForm(t *testing.T) { // P2.3
	for size := 1; size <= 9; size++ { // a nought as the last byte
		for _, c := range []string{"\x80", "\xff"} {
			for _, behind := range []string{"", "\x01", "\xff"} {
				r := codec.NewReader(strings.Repeat(c, size) + "\x00" + behind)
				want(t, "Varint", r.Varint(), 0)
				stuck(t, "a nought behind "+strconv.Itoa(size), r, api.ErrForm)
				r = codec.NewReader(strings.Repeat(c, size) + "\x00" + behind)
				want(t, "Text", r.Text(), "")
				stuck(t, "Text", r, api.ErrForm)
			}
		}
	}
	for _, nine := range []string{"\x80", "\xff"} { // a tenth byte other than 1
		for c := range 256 {
			r := codec.NewReader(strings.Repeat(nine, 9) + string([]byte{byte(c)}))
			n := r.Varint()
			if c == 1 {
				want(t, "the tenth is 1", r.Done(), api.OK)
				continue
			}
			want(t, "the tenth is "+strconv.Itoa(c), n, 0)
			stuck(t, "the tenth is "+strconv.Itoa(c), r, api.ErrForm)
		}
	}
}

func TestNil(t *testing.T) { // P2.6
	var w *codec.Writer
	for _, x := range puts() {
		x.do(w)
	}
	s, e := w.Done()
	want(t, "Len", w.Len(), 0)
	want(t, "Done", s, "")
	want(t, "Done", e, api.ErrClosed)
	var r *codec.Reader
	stuck(t, "a nil Reader", r, api.ErrClosed)
}

// thing is something that is written and read.
type thing struct {
	kind int
	n    uint64
	s    string
}

func (x thing) write(w *codec.Writer) {
	switch x.kind {
	case 0:
		w.U8(uint8(x.n))
	case 1:
		w.U16(uint16(x.n))
	case 2:
		w.U32(uint32(x.n))
	case 3:
		w.U64(x.n)
	case 4:
		w.Varint(x.n)
	case 5:
		w.Text(x.s)
	case 6:
		w.Raw(x.s)
	}
}

func (x thing) isRead(r *codec.Reader) bool {
	switch x.kind {
	case 0:
		return r.U8() == uint8(x.n)
	case 1:
		return r.U16() == uint16(x.n)
	case 2:
		return r.U32() == uint32(x.n)
	case 3:
		return r.U64() == x.n
	case 4:
		return r.Varint() == x.n
	case 5:
		return r.Text() == x.s
	}
	return r.Raw(len(x.s)) == x.s
}

func TestThereAndBack(t *testing.T) { // P2.7
	rnd := rand.New(rand.NewSource(7))
	for range 2000 {
		w := codec.NewWriter(10000)
		var l []thing
		for range rnd.Intn(12) {
			x := thing{rnd.Intn(7), rnd.Uint64() >> rnd.Intn(64), randomText(rnd, 200)}
			x.write(w)
			l = append(l, x)
		}
		s, e := w.Done()
		want(t, "Done", e, api.OK)
		r := codec.NewReader(s)
		for _, x := range l {
			if !x.isRead(r) {
				t.Fatalf("%v of %x", x, s)
			}
		}
		want(t, "nothing is left", r.Done(), api.OK)
	}
}

func TestVarintHasOneForm(t *testing.T) { // P2.7
	form := func(n uint64) string {
		w := codec.NewWriter(10)
		w.Varint(n)
		s, _ := w.Done()
		return s
	}
	r := rand.New(rand.NewSource(8))
	for range 20000 {
		b := make([]byte, 1+r.Intn(10))
		for i := range b {
			b[i] = []byte{0x80, 0xff, 0, 1, 0x7f, byte(r.Intn(256)), byte(128 + r.Intn(128))}[r.Intn(7)]
		}
		x := codec.NewReader(string(b))
		if n := x.Varint(); x.Err() == api.OK {
			wantText(t, "the form", form(n), string(b[:len(b)-x.Left()]))
		}
		m, n := r.Uint64()>>r.Intn(64), r.Uint64()>>r.Intn(64)
		if m < n && len(form(m)) > len(form(n)) {
			t.Error("the lower one is longer", m, n)
		}
	}
}

func TestExamples(t *testing.T) { // the chapter's examples
	w := codec.NewWriter(100)
	w.Varint(300)
	w.Varint(0)
	w.Text("ab")
	wantDone(t, "varints and a text", w, "\xac\x02\x00\x02\x61\x62")
	for s, fault := range map[string]api.Errno{"\x80\x00": api.ErrForm, "\x80": api.ErrShort} {
		r := codec.NewReader(s)
		r.Varint()
		want(t, "a reader", r.Err(), fault)
	}
	wantText(t, "Key", keyOf(t, number(1), text("a")), "\x01\x00\x00\x00\x00\x00\x00\x00\x01\x02\x61\x00")
	want(t, "Crc", codec.Crc("123456789"), 0xe3069283)
	s, _ := codec.Frame(7, "")
	head := "\x44\x46\x07\x00\x00\x00\x00\x00"
	wantText(t, "Frame", s, head+sum(head))
	want(t, "its bytes", len(s), 12)
}
