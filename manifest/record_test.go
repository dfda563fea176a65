package manifest_test

import (
	"encoding/binary"
	"encoding/hex"
	"math"
	"math/rand"
	"strconv"
	"strings"
	"testing"

	"atrium/api"
	"atrium/manifest"
)

// varints is numbers as bytes, told apart from the program.
func varints(numbers ...uint64) string {
	var b []byte
	for _, n := range numbers {
		b = binary.AppendUvarint(b, n)
	}
	return string(b)
}

// texts is texts as bytes.
func texts(l ...string) string {
	var b strings.Builder
	for _, s := range l {
		b.WriteString(varints(uint64(len(s))) + s)
	}
	return b.String()
}

// written is an edit's record, as the chapter says it.
func written(e api.Edit) string {
	var b strings.Builder
	b.WriteString(varints(uint64(e.Log), uint64(e.Next), e.Seq, uint64(len(e.Gone))))
	for _, a := range e.Gone {
		b.WriteString(varints(uint64(a.Level), uint64(a.Number)))
	}
	b.WriteString(varints(uint64(len(e.Added))))
	for _, p := range e.Added {
		b.WriteString(varints(uint64(p.Level), uint64(p.Sst.Number), uint64(p.Sst.Size), uint64(p.Sst.Count)) + texts(p.Sst.First, p.Sst.Last))
	}
	return b.String()
}

// second is a second reader of records; whatever is wrong is kept.
type second struct {
	rest  string
	wrong bool
}

// varint is the next number, which is to be at most most.
func (r *second) varint(most uint64) uint64 {
	n, size := binary.Uvarint([]byte(r.rest))
	if r.wrong || size <= 0 || n > most || varints(n) != r.rest[:size] {
		r.wrong = true
		return 0
	}
	r.rest = r.rest[size:]
	return n
}

func (r *second) number() int { return int(r.varint(math.MaxInt)) }

func (r *second) text() string {
	n := r.varint(math.MaxUint64)
	if r.wrong || n > uint64(len(r.rest)) {
		r.wrong = true
		return ""
	}
	s := r.rest[:n]
	r.rest = r.rest[n:]
	return s
}

// told is the edit whose record bytes are, by the second reader.
func told(rec string) (api.Edit, bool) {
	r := &second{rest: rec, wrong: len(rec) > api.MaxRecord}
	var e api.Edit
	e.Log = r.number()
	e.Next = r.number()
	e.Seq = r.varint(math.MaxUint64)
	for n := r.varint(math.MaxUint64); n > 0 && !r.wrong; n-- {
		var a api.At
		a.Level = r.number()
		a.Number = r.number()
		e.Gone = append(e.Gone, a)
	}
	for n := r.varint(math.MaxUint64); n > 0 && !r.wrong; n-- {
		var p api.Placed
		p.Level = r.number()
		p.Sst.Number = r.number()
		p.Sst.Size = r.number()
		p.Sst.Count = r.number()
		p.Sst.First = r.text()
		p.Sst.Last = r.text()
		e.Added = append(e.Added, p)
	}
	if r.wrong || r.rest != "" {
		return api.Edit{}, false
	}
	return e, true
}

// wantRecord is that an edit has a record, and that it is found again in it.
func wantRecord(t *testing.T, what string, e api.Edit) string {
	t.Helper()
	rec, no := manifest.Encode(e)
	want(t, "Encode: "+what, no, api.OK)
	if should := written(e); rec != should {
		t.Errorf("Encode: %s: %.200x, not %.200x", what, rec, should)
	}
	again, no := manifest.Decode(rec)
	want(t, "Decode: "+what, no, api.OK)
	wantEdit(t, "Decode: "+what, again, e)
	return rec
}

// wantDecode is that Decode tells what the second reader does.
func wantDecode(t *testing.T, what, rec string) bool {
	t.Helper()
	should, is := told(rec)
	e, no := manifest.Decode(rec)
	wantEdit(t, what, e, should)
	if !is {
		want(t, what, no, api.ErrEdit)
		return false
	}
	want(t, what, no, api.OK)
	again, no := manifest.Encode(e) // P11.7: and the other way round
	want(t, what+": Encode of Decode", no, api.OK)
	want(t, what+": Encode of Decode", again == rec, true)
	return true
}

// refuseDecode is that bytes are no edit's.
func refuseDecode(t *testing.T, what, rec string) {
	t.Helper()
	want(t, what, wantDecode(t, what, rec), false)
}

// edits is some edits, not all of which may be done.
func edits() []api.Edit {
	long := strings.Repeat("k", api.MaxKey)
	return []api.Edit{
		{}, {Next: 1}, {Log: 1, Next: 3, Seq: 9}, {Log: api.MaxNumber, Next: api.MaxNumber + 1, Seq: api.MaxSeq}, {Log: math.MaxInt, Next: math.MaxInt, Seq: math.MaxUint64}, {Log: 127, Next: 128, Seq: 16383}, {Log: 16384, Next: 300, Seq: 1 << 63},
		keep(goes(at(0, 0))), keep(goes(at(0, 5), at(0, 5), at(1, 7), at(6, api.MaxNumber), at(math.MaxInt, math.MaxInt))),
		keep(nil, comes(0, file(2, "a", "f"))), keep(nil, comes(0, api.Sst{})), keep(nil, comes(300, api.Sst{Number: math.MaxInt, Size: math.MaxInt, Count: math.MaxInt, First: "z", Last: "a"})),
		keep(nil, comes(6, file(api.MaxNumber, long, long)), comes(0, file(1, "", "")), comes(1, file(128, "\x00\xff", strings.Repeat("long", 1000)))),
		keep(goes(at(1, 2), at(3, 4)), comes(5, file(6, "six", "sixx")), comes(7, file(8, "eight", "eightt"))),
		manifest.Whole(sample()), manifest.Whole(state(many(1, 24), many(25, 1000))),
	}
}

func TestEncodeBytes(t *testing.T) { // the chapter's Words, byte by byte, worked out by hand
	e := api.Edit{Log: 1, Next: 300, Seq: 128, Gone: goes(at(2, 5), at(0, 200)), Added: []api.Placed{comes(1, api.Sst{Number: 7, Size: 1000, Count: 10, First: "ab", Last: "c"}), comes(0, api.Sst{})}}
	should, _ := hex.DecodeString("01" + "ac02" + "8001" + "02" + "0205" + "00c801" + "02" + "01" + "07" + "e807" + "0a" + "026162" + "0163" + "00" + "00" + "00" + "00" + "00" + "00")
	rec := wantRecord(t, "by hand", e)
	want(t, "by hand", rec, string(should))
	want(t, "nothing", wantRecord(t, "nothing", api.Edit{}), "\x00\x00\x00\x00\x00")
}

func TestEncode(t *testing.T) { // P11.2, P11.7
	for i, e := range edits() {
		wantRecord(t, strconv.Itoa(i), e)
	}
}

func TestEncodeBelow(t *testing.T) { // P11.2: a number below 0 in each place
	long := strings.Repeat("x", api.MaxRecord+1)
	good := keep(goes(at(1, 2), at(3, 4)), comes(5, file(6, "six", "six")), comes(7, file(8, "eight", "eight")))
	for _, n := range []int{-1, -2, -1 << 31, math.MinInt} {
		for what, change := range map[string]func(e *api.Edit){
			"Log":                  func(e *api.Edit) { e.Log = n },
			"Next":                 func(e *api.Edit) { e.Next = n },
			"Log and Next":         func(e *api.Edit) { e.Log, e.Next = n, n },
			"a Level that goes":    func(e *api.Edit) { e.Gone[0].Level = n },
			"a Number that goes":   func(e *api.Edit) { e.Gone[0].Number = n },
			"the last Level":       func(e *api.Edit) { e.Gone[1].Level = n },
			"the last Number":      func(e *api.Edit) { e.Gone[1].Number = n },
			"a Level that comes":   func(e *api.Edit) { e.Added[0].Level = n },
			"a Number that comes":  func(e *api.Edit) { e.Added[0].Sst.Number = n },
			"a Size":               func(e *api.Edit) { e.Added[0].Sst.Size = n },
			"a Count":              func(e *api.Edit) { e.Added[0].Sst.Count = n },
			"the last one's Level": func(e *api.Edit) { e.Added[1].Level = n },
			"the last one's":       func(e *api.Edit) { e.Added[1].Sst.Number = n },
			"the last one's Size":  func(e *api.Edit) { e.Added[1].Sst.Size = n },
			"the last one's Count": func(e *api.Edit) { e.Added[1].Sst.Count = n },
		} {
			e := keep(append(goes(), good.Gone...), append([]api.Placed(nil), good.Added...)...)
			change(&e)
			rec, no := manifest.Encode(e)
			want(t, what+" below 0", no, api.ErrArg)
			want(t, what+" below 0", rec, "")
			e.Added[0].Sst.First = long
			rec, no = manifest.Encode(e)
			want(t, what+" below 0, and too long", no, api.ErrArg)
			want(t, what+" below 0, and too long", rec, "")
		}
	}
	wantRecord(t, "it stays", good)
}

// filled is edits whose records have so many bytes: by one long text, by many files that go, by many that come.
func filled(size int) []api.Edit {
	var l []api.Edit
	for _, e := range []api.Edit{
		keep(nil, comes(0, api.Sst{First: "a"})), keep(goes(make([]api.At, 60000)...), comes(0, api.Sst{First: "a"})), keep(nil, append([]api.Placed{comes(0, api.Sst{Last: "l"})}, make([]api.Placed, 30000)...)...),
	} {
		e.Added[0].Sst.First = strings.Repeat("k", 20000) // its number has three bytes from here on
		e.Added[0].Sst.First = strings.Repeat("k", 20000+size-len(written(e)))
		l = append(l, e)
	}
	return l
}

func TestMaxRecord(t *testing.T) { // P11.2: just MaxRecord bytes, and one more
	for _, more := range []int{-1, 0, 1, 2, 5000} {
		for _, e := range filled(api.MaxRecord + more) {
			rec := written(e)
			want(t, "bytes", len(rec), api.MaxRecord+more)
			if more <= 0 {
				wantRecord(t, "up to MaxRecord", e)
				continue
			}
			none, no := manifest.Encode(e)
			want(t, "beyond MaxRecord", no, api.ErrLong)
			want(t, "beyond MaxRecord", none, "")
			refuseDecode(t, "beyond MaxRecord", rec)
		}
	}
	e := keep(goes(make([]api.At, api.MaxRecord)...))
	_, no := manifest.Encode(e)
	want(t, "too many that go", no, api.ErrLong)
	e = keep(nil, make([]api.Placed, api.MaxRecord)...)
	_, no = manifest.Encode(e)
	want(t, "too many that come", no, api.ErrLong)
}

func TestDecodeCut(t *testing.T) { // P11.2: cut off, and longer
	for i, e := range edits()[:14] {
		rec := written(e)
		for n := range len(rec) {
			refuseDecode(t, strconv.Itoa(i)+" cut off", rec[:n])
		}
		for _, more := range []string{"\x00", "\x01", "\xff", "\x00\x00\x00\x00\x00", rec} {
			refuseDecode(t, strconv.Itoa(i)+" longer", rec+more)
		}
	}
	whole := written(edits()[15])
	for n := 0; n < len(whole); n += 97 {
		refuseDecode(t, "cut off", whole[:n])
	}
	refuseDecode(t, "longer", whole+"\x00")
	refuseDecode(t, "nothing", "")
}

func TestDecodeChanged(t *testing.T) { // P11.2: what changed bytes are is what the second reader says
	is, not := 0, 0
	for _, e := range edits()[:15] {
		rec := written(e)
		for at := range min(len(rec), 200) {
			for _, c := range []byte{0, 1, 2, 5, 0x7f, 0x80, 0x81, 0xff, rec[at] + 1, rec[at] - 1, rec[at] ^ 0x80} {
				if wantDecode(t, "changed", rec[:at]+string([]byte{c})+rec[at+1:]) {
					is++
				} else {
					not++
				}
			}
		}
	}
	want(t, "both are met", is > 500 && not > 500, true)
}

func TestDecodeAnyBytes(t *testing.T) { // P11.2
	r := rand.New(rand.NewSource(1))
	is := 0
	for range 100000 {
		b := make([]byte, r.Intn(40))
		for i := range b {
			b[i] = []byte{0, 0, 1, 2, 3, byte(r.Intn(256))}[r.Intn(6)]
		}
		if wantDecode(t, "any bytes", string(b)) {
			is++
		}
	}
	want(t, "some are edits", is > 100, true)
}

// places is a record in its numbers, one by one, with its texts behind its numbers' places: what is put in the place of a number is any bytes.
func places() []string {
	return []string{
		varints(1), varints(2), varints(3), // Log, Next, Seq
		varints(2), varints(4), varints(5), varints(6), varints(7), // Gone
		varints(2), varints(8), varints(9), varints(10), varints(11), texts("ab"), texts("c"), varints(12), varints(13), varints(14), varints(15), texts(""), texts("d"), // Added
	}
}

func TestDecodeForms(t *testing.T) { // P11.2: numbers not in their shortest form, and those that no int has
	l := places()
	want(t, "it is an edit", wantDecode(t, "whole", strings.Join(l, "")), true)
	for i := range l {
		was := l[i]
		with := func(b string) string {
			l[i] = b
			defer func() { l[i] = was }()
			return strings.Join(l, "")
		}
		n := was[0]
		for _, tail := range []string{"\x00", "\x80\x00", "\x80\x80\x00", "\x80\x80\x80\x80\x80\x80\x80\x80\x00", "\x80\x80\x80\x80\x80\x80\x80\x80\x80\x00"} {
			refuseDecode(t, "not in its shortest form: "+strconv.Itoa(i), with(string([]byte{n | 0x80})+tail+was[1:]))
		}
		refuseDecode(t, "no varint", with("\xff\xff\xff\xff\xff\xff\xff\xff\xff\x02"+was[1:]))
		refuseDecode(t, "no varint", with("\xff\xff\xff\xff\xff\xff\xff\xff\xff\xff\x01"+was[1:]))
		counts := i == 3 || i == 8 || len(was) > 1 || was[0] == 0 // of lists and texts
		for _, big := range []uint64{math.MaxInt, math.MaxInt + 1, 1<<63 + 5, math.MaxUint64} {
			is := !counts && (big <= math.MaxInt || i == 2)
			want(t, "a number: "+strconv.Itoa(i), wantDecode(t, "a number", with(varints(big)+was[1:])), is)
		}
	}
	want(t, "nothing stays", strings.Join(l, ""), strings.Join(places(), ""))
}

func TestDecodeCounts(t *testing.T) { // P11.2: counts greater than the rest can hold
	for _, n := range []uint64{1, 2, 3, 100, 1 << 16, 1 << 31, 1 << 32, 1 << 40, math.MaxInt, 1 << 63, math.MaxUint64} {
		refuseDecode(t, "of what goes", varints(1, 2, 3, n))
		refuseDecode(t, "of what goes", varints(1, 2, 3, n, 0))
		refuseDecode(t, "of what goes", varints(1, 2, 3, n+2, 4, 5, 6, 7, 0))
		refuseDecode(t, "of what comes", varints(1, 2, 3, 0, n))
		refuseDecode(t, "of what comes", varints(1, 2, 3, 0, n, 4, 5, 6, 7))
		refuseDecode(t, "of what comes", varints(1, 2, 3, 0, n+1, 4, 5, 6, 7)+texts("a", "b"))
		refuseDecode(t, "of a text", varints(1, 2, 3, 0, 1, 4, 5, 6, 7, n))
		refuseDecode(t, "of a text", varints(1, 2, 3, 0, 1, 4, 5, 6, 7)+texts("a")+varints(n))
	}
	zeros := strings.Repeat("\x00", 100000)
	refuseDecode(t, "of what goes, many", varints(1, 2, 3, 1<<40)+zeros)
	refuseDecode(t, "of what comes, many", varints(1, 2, 3, 0, 1<<40)+zeros)
	want(t, "just as many", wantDecode(t, "just as many", varints(1, 2, 3, 1000)+zeros[:2000]+varints(2000)+zeros[:12000]), true)
}

func TestRecordsStay(t *testing.T) { // R3
	e := keep(goes(at(1, 2), at(3, 4), at(9, 9))[:2], comes(5, file(6, "six", "six")), comes(7, file(8, "eight", "eight")))
	rec := wantRecord(t, "ordinary", e)
	want(t, "behind the list", e.Gone[:3][2], at(9, 9))
	one, _ := manifest.Decode(rec)
	two, _ := manifest.Decode(rec)
	spoil(one.Gone)
	spoil(one.Added)
	wantEdit(t, "another answer", two, e)
}
