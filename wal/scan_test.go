package wal_test

import (
	"bytes"
	"math/rand"
	"slices"
	"strconv"
	"strings"
	"testing"

	"atrium/api"
	"atrium/wal"
)

// wantLog is what Scan and Records should tell of a log.
func wantLog(t *testing.T, what string, log string, recs []string, ends []int, why int) {
	t.Helper()
	b := []byte(log)
	got, end, how := wal.Scan(b)
	if !slices.Equal(got, recs) {
		t.Errorf("%s: %.200q, not %.200q", what, got, recs)
	}
	last := 0
	if len(ends) > 0 {
		last = ends[len(ends)-1]
	}
	want(t, what+": end", end, last)
	want(t, what+": why", how, why)
	i := 0
	for at, rec := range wal.Records(b) {
		if i == len(recs) || rec != recs[i] || at != ends[i] {
			t.Errorf("%s: Records: the record %d: %d %.200q", what, i, at, rec)
			return
		}
		i++
	}
	want(t, what+": Records", i, len(recs))
	wantBytes(t, what+": what was handed in", b, log)
}

// full is a whole record that leaves so many bytes in the first block.
func full(left int) (log string, rec string) {
	rec = text(1017 - left)
	return fragment(1, rec), rec
}

func TestScanWhole(t *testing.T) { // P5.3
	wantLog(t, "nothing", "", nil, nil, api.EndWhole)
	wantLog(t, "no bytes", fragment(1, ""), []string{""}, []int{7}, api.EndWhole)
	wantLog(t, "one", fragment(1, "abc"), []string{"abc"}, []int{10}, api.EndWhole)
	wantLog(t, "two", fragment(1, "abc")+fragment(1, "de"), []string{"abc", "de"}, []int{10, 19}, api.EndWhole)
	wantLog(t, "in parts", fragment(2, text(1017))+fragment(4, "x"), []string{text(1017) + "x"}, []int{1032}, api.EndWhole)
	wantLog(t, "in three parts", fragment(2, text(1017))+fragment(3, text(1017))+fragment(4, "x"), []string{text(1017) + text(1017) + "x"}, []int{2056}, api.EndWhole)
	recs, end, why := wal.Scan(nil)
	want(t, "nil", len(recs)+end, 0)
	want(t, "nil", why, api.EndWhole)
	for range wal.Records(nil) {
		t.Error("Records of nil")
	}
}

func TestScanParts(t *testing.T) { // P5.3: parts need not fill their blocks where others wrote them
	wantLog(t, "short parts", fragment(2, "a")+fragment(3, "bc")+fragment(3, "")+fragment(4, "d")+fragment(1, "e"), []string{"abcd", "e"}, []int{8 + 9 + 7 + 8, 40}, api.EndWhole)
	wantLog(t, "parts of nothing", fragment(2, "")+fragment(4, ""), []string{""}, []int{14}, api.EndWhole)
	first := fragment(2, text(1012)) // leaves 5 bytes, within a record
	wantLog(t, "passed over within a record", first+zeros(5)+fragment(4, "x"), []string{text(1012) + "x"}, []int{1032}, api.EndWhole)
	long := fragment(2, text(1017)) + strings.Repeat(fragment(3, text(1017)), 258) + fragment(4, "z")
	wantLog(t, "a record beyond MaxRecord", long, []string{strings.Repeat(text(1017), 259) + "z"}, []int{len(long)}, api.EndWhole)
}

func TestScanBeyondMaxFile(t *testing.T) { // P5.3: any bytes
	log := strings.Repeat(fragment(1, text(1017)), 1030)
	recs, end, why := wal.Scan([]byte(log))
	want(t, "records", len(recs), 1030)
	want(t, "end", end, len(log))
	want(t, "why", why, api.EndWhole)
}

func TestScanPassesOver(t *testing.T) { // P5.3
	for left := 1; left <= 6; left++ {
		log, rec := full(left)
		one, at := []string{rec}, []int{1024 - left}
		wantLog(t, "nothing behind it", log, one, at, api.EndWhole)
		wantLog(t, "passed over", log+zeros(left), one, at, api.EndWhole)
		wantLog(t, "one behind it", log+zeros(left)+fragment(1, "abc"), []string{rec, "abc"}, []int{at[0], 1034}, api.EndWhole)
		begun := fragment(2, rec)
		wantLog(t, "within a record", begun+zeros(left), nil, nil, api.EndTorn)
		for there := 1; there < left; there++ {
			wantLog(t, "cut off", log+zeros(there), one, at, api.EndTorn)
			wantLog(t, "cut off within a record", begun+zeros(there), nil, nil, api.EndTorn)
		}
		for there := 1; there <= left; there++ {
			for i := range there {
				for _, c := range []byte{1, 0x80, 0xff} {
					b := []byte(zeros(there))
					b[i] = c
					wantLog(t, "not 0", log+string(b), one, at, api.EndBad)
					wantLog(t, "not 0 within a record", begun+string(b), nil, nil, api.EndBad)
					if there == left {
						wantLog(t, "not 0, one behind it", log+string(b)+fragment(1, "abc"), one, at, api.EndBad)
					}
				}
			}
		}
	}
	log, rec := full(7)
	wantLog(t, "7 left: a fragment of no bytes", log+fragment(1, ""), []string{rec, ""}, []int{1017, 1024}, api.EndWhole)
	wantLog(t, "7 left are not passed over", log+zeros(7), []string{rec}, []int{1017}, api.EndBad)
	log, rec = full(8)
	wantLog(t, "8 left", log+fragment(1, "x"), []string{rec, "x"}, []int{1016, 1024}, api.EndWhole)
	log, rec = full(0)
	wantLog(t, "none left", log+fragment(1, "x"), []string{rec, "x"}, []int{1024, 1032}, api.EndWhole)
	wantLog(t, "none left", log, []string{rec}, []int{1024}, api.EndWhole)
}

func TestScanTorn(t *testing.T) { // P5.3
	for n := 1; n < 7; n++ {
		for _, c := range []string{"\x00", "\xff", "\x01"} {
			wantLog(t, "fewer than 7 bytes", strings.Repeat(c, n), nil, nil, api.EndTorn)
			wantLog(t, "fewer than 7 behind one", fragment(1, "a")+strings.Repeat(c, n), []string{"a"}, []int{8}, api.EndTorn)
		}
	}
	whole := fragment(1, text(300))
	for n := 7; n < len(whole); n++ {
		wantLog(t, "within a part", whole[:n], nil, nil, api.EndTorn)
	}
	for _, log := range []string{fragment(2, ""), fragment(2, "abc"), fragment(2, text(1017)), fragment(2, "a") + fragment(3, "b"), fragment(2, text(1017)) + fragment(3, text(1017))} {
		wantLog(t, "not its record's last", log, nil, nil, api.EndTorn)
		wantLog(t, "not its record's last, one ahead", fragment(1, text(1017))+log, []string{text(1017)}, []int{1024}, api.EndTorn)
		wantLog(t, "and some of a head", log+"\x07", nil, nil, api.EndTorn)
	}
}

func TestScanKinds(t *testing.T) { // P5.3: each kind behind each other one
	kinds := []byte{0, 1, 2, 3, 4, 5, 6, 7, 0x80, 0x81, 0xff}
	for _, first := range kinds {
		for _, second := range kinds {
			log := fragment(first, "ab") + fragment(second, "c")
			what := strconv.Itoa(int(second)) + " behind " + strconv.Itoa(int(first))
			switch {
			case first == 1 && second == 1:
				wantLog(t, what, log, []string{"ab", "c"}, []int{9, 17}, api.EndWhole)
			case first == 1 && second == 2:
				wantLog(t, what, log, []string{"ab"}, []int{9}, api.EndTorn)
			case first == 1:
				wantLog(t, what, log, []string{"ab"}, []int{9}, api.EndBad)
			case first == 2 && second == 3:
				wantLog(t, what, log, nil, nil, api.EndTorn)
			case first == 2 && second == 4:
				wantLog(t, what, log, []string{"abc"}, []int{17}, api.EndWhole)
			default:
				wantLog(t, what, log, nil, nil, api.EndBad)
			}
			begun := fragment(2, "") + log
			what += " behind 2"
			switch {
			case first == 3 && second == 3:
				wantLog(t, what, begun, nil, nil, api.EndTorn)
			case first == 3 && second == 4:
				wantLog(t, what, begun, []string{"abc"}, []int{24}, api.EndWhole)
			case first == 4 && second == 1:
				wantLog(t, what, begun, []string{"ab", "c"}, []int{16, 24}, api.EndWhole)
			case first == 4 && second == 2:
				wantLog(t, what, begun, []string{"ab"}, []int{16}, api.EndTorn)
			case first == 4:
				wantLog(t, what, begun, []string{"ab"}, []int{16}, api.EndBad)
			default:
				wantLog(t, what, begun, nil, nil, api.EndBad)
			}
		}
	}
}

func TestScanLengths(t *testing.T) { // P5.3: a part that would go beyond the block
	for _, ahead := range []int{0, 7, 100, 1000, 1010, 1016, 1017} {
		log, recs, ends := "", []string(nil), []int(nil)
		if ahead > 0 {
			log, recs, ends = fragment(1, text(ahead-7)), []string{text(ahead - 7)}, []int{ahead}
		}
		room := 1024 - ahead - 7
		wantLog(t, "what fits", log+fragment(1, text(room)), append(slices.Clone(recs), text(room)), append(slices.Clone(ends), 1024), api.EndWhole)
		for _, n := range []int{room + 1, room + 2, room + 1024, 0xff00, 0xffff} {
			long := fragment(1, text(n)) + fragment(1, "z")
			wantLog(t, "beyond it", log+long, recs, ends, api.EndBad)
			wantLog(t, "beyond it, its part not there", log+long[:7], recs, ends, api.EndBad)
		}
	}
	log, rec := full(6)
	wantLog(t, "behind what is passed over", log+zeros(6)+fragment(1, text(1018)), []string{rec}, []int{1018}, api.EndBad)
}

func TestScanLooksInOrder(t *testing.T) { // P5.3: length and kind, then whether the part is there, then the sum
	ahead := fragment(1, "a")
	recs, ends := []string{"a"}, []int{8}
	for _, x := range []struct {
		what, log string
		why       int
	}{
		{"a wrong sum, its part not there", "????\x00\x05\x01abcd", api.EndTorn},
		{"a wrong sum, no byte of its part", "????\x00\x05\x01", api.EndTorn},
		{"a wrong sum", "????\x00\x05\x01abcde", api.EndBad},
		{"a wrong sum of no bytes", "????\x00\x00\x01", api.EndBad},
		{"no kind, its part not there", "????\x00\x05\x00abcd", api.EndBad},
		{"no kind, its part not there", "????\x00\x05\x05", api.EndBad},
		{"3 behind a whole one, its part not there", "????\x00\x05\x03abcd", api.EndBad},
		{"4 behind a whole one, its part not there", "????\x00\x05\x04", api.EndBad},
		{"2, its part not there", "????\x00\x05\x02abcd", api.EndTorn},
		{"1 behind 2, its part not there", fragment(2, "b") + "????\x00\x05\x01abcd", api.EndBad},
		{"2 behind 2, its part not there", fragment(2, "b") + "????\x00\x05\x02", api.EndBad},
		{"4 behind 2, its part not there", fragment(2, "b") + "????\x00\x05\x04abcd", api.EndTorn},
		{"a length beyond the block, its part not there", "????\x04\x00\x01", api.EndBad},
		{"six bytes of what would be bad", "????\xff\xff", api.EndTorn},
		{"bytes 0", zeros(7), api.EndBad},
		{"bytes 0", zeros(2000), api.EndBad},
		{"bytes FF", strings.Repeat("\xff", 100), api.EndBad},
	} {
		wantLog(t, x.what, ahead+x.log, recs, ends, x.why)
	}
}

func TestScanSums(t *testing.T) { // P5.3: each bit of a sum counts, and what is behind is not looked for
	log := fragment(1, "ahead") + fragment(1, "record")
	for bit := range 32 {
		b := []byte(log)
		b[12+bit/8] ^= 1 << (bit % 8)
		wantLog(t, "a wrong sum", string(b)+fragment(1, "behind"), []string{"ahead"}, []int{12}, api.EndBad)
	}
	swapped := []byte(fragment(1, "record"))
	swapped[6] = 2 // the kind is of the sum
	wantLog(t, "another kind", string(swapped), nil, nil, api.EndBad)
	parts := fragment(2, "a") + fragment(3, "b")
	last := []byte(fragment(4, "c"))
	last[0]++
	wantLog(t, "of its last part", parts+string(last)+fragment(1, "behind"), nil, nil, api.EndBad)
}

// ledger is a log with records of none, one and several fragments behind blocks' ends of which 0 to 8 bytes are left.
func ledger(t *testing.T) (all []byte, recs []string, ends []int) {
	t.Helper()
	w := writer(t, 0)
	lay := func(n int) {
		b, e := w.Lay(text(n))
		want(t, "Lay", e, api.OK)
		all = append(all, b...)
		recs = append(recs, text(n))
		ends = append(ends, len(all))
	}
	for left := range 9 {
		lay(3)
		lay(0)
		if 1024-w.Size()%1024 < 7+left {
			lay(100)
		}
		lay(1024 - w.Size()%1024 - left - 7)
		want(t, "left", (1024-w.Size()%1024)%1024, left)
		lay([]int{0, 5, 1100}[left%3])
	}
	lay(2034)
	return all, recs, ends
}

func TestThereAndBack(t *testing.T) { // P5.6
	all, recs, ends := ledger(t)
	wantLog(t, "all of them", string(all), recs, ends, api.EndWhole)
	r := rand.New(rand.NewSource(6))
	for range 300 {
		var recs []string
		for range r.Intn(20) {
			b := make([]byte, r.Intn([]int{2, 20, 1100, 5000}[r.Intn(4)]))
			r.Read(b)
			recs = append(recs, string(b))
		}
		all, ends := laid(t, recs...)
		wantLog(t, "all of them", string(all), recs, ends, api.EndWhole)
	}
}

func TestLaidBehindALog(t *testing.T) { // P5.1, P5.6: a writer behind a log that is there
	all, recs, ends := ledger(t)
	for i, end := range ends {
		w := writer(t, end)
		b, e := w.Lay("more")
		want(t, "Lay", e, api.OK)
		log := string(all[:end]) + string(b)
		wantLog(t, "more", log, append(slices.Clone(recs[:i+1]), "more"), append(slices.Clone(ends[:i+1]), len(log)), api.EndWhole)
	}
}

func TestCutOff(t *testing.T) { // P5.7: at every place
	all, recs, ends := ledger(t)
	for n := range len(all) + 1 {
		k := 0
		for k < len(ends) && ends[k] <= n {
			k++
		}
		last := 0
		if k > 0 {
			last = ends[k-1]
		}
		why := api.EndTorn
		if n == last || n%1024 == 0 && n-last < 7 {
			why = api.EndWhole
		}
		wantLog(t, "cut off at "+strconv.Itoa(n), string(all[:n]), recs[:k], ends[:k], why)
	}
}

func TestAppended(t *testing.T) { // P5.8
	r := rand.New(rand.NewSource(8))
	for range 2000 {
		log := crafted(r)
		n := r.Intn(len(log) + 1)
		recs, end, why := wal.Scan(log[:n])
		more, further, whyMore := wal.Scan(log)
		if len(more) < len(recs) || !slices.Equal(more[:len(recs)], recs) || further < end {
			t.Fatalf("%x: not the begin of more", log)
		}
		if why == api.EndBad && (whyMore != api.EndBad || len(more) != len(recs) || further != end) {
			t.Fatalf("%x: what is bad does not get well", log)
		}
	}
}

func TestTurnedBits(t *testing.T) { // P5.9: a byte's bits from the lowest on, as the check sum takes them
	r := rand.New(rand.NewSource(9))
	recs := []string{"a record", "another one of some bytes", text(2000), "last"}
	all, ends := laid(t, recs...)
	parts := [][2]int{{7, 15}, {22, 47}, {54, 1024}, {1031, 2048}, {2055, 2068}, {2075, 2079}} // where each part lies
	of := []int{0, 1, 2, 2, 2, 3}                                                              // of which record
	for i, p := range parts {
		want(t, "a part", strings.Contains(recs[of[i]], string(all[p[0]:p[1]])), true)
		for at := 8 * p[0]; at < 8*p[1]; at++ {
			for range 5 {
				b := bytes.Clone(all)
				pattern := r.Uint32()>>r.Intn(32) | 1
				for k := range 32 {
					if pattern>>k&1 == 1 && at+k < 8*p[1] {
						b[(at+k)/8] ^= 1 << ((at + k) % 8)
					}
				}
				got, end, why := wal.Scan(b)
				last := 0
				if of[i] > 0 {
					last = ends[of[i]-1]
				}
				if why != api.EndBad || !slices.Equal(got, recs[:of[i]]) || end != last {
					t.Fatal("turned at", at, len(got), end, why)
				}
			}
		}
	}
}

// told is what the chapter says of any bytes, told block by block.
func told(b []byte) (recs []string, ends []int, why int) {
	rec, open := "", false
	for begin := 0; ; begin += 1024 {
		block := string(b[begin:min(begin+1024, len(b))])
		at := 0
		for 1024-at >= 7 {
			rest := block[at:]
			if rest == "" {
				if open {
					return recs, ends, api.EndTorn
				}
				return recs, ends, api.EndWhole
			}
			if len(rest) < 7 {
				return recs, ends, api.EndTorn
			}
			n := int(rest[4])*256 + int(rest[5])
			if at+7+n > 1024 || !open && rest[6] != 1 && rest[6] != 2 || open && rest[6] != 3 && rest[6] != 4 {
				return recs, ends, api.EndBad
			}
			if len(rest) < 7+n {
				return recs, ends, api.EndTorn
			}
			if fragment(rest[6], rest[7:7+n]) != rest[:7+n] {
				return recs, ends, api.EndBad
			}
			at += 7 + n
			rec += rest[7 : 7+n]
			open = rest[6] == 2 || rest[6] == 3
			if !open {
				recs, ends, rec = append(recs, rec), append(ends, begin+at), ""
			}
		}
		passed := block[at:]
		if strings.Trim(passed, "\x00") != "" {
			return recs, ends, api.EndBad
		}
		if len(block) < 1024 && (passed != "" || open) {
			return recs, ends, api.EndTorn
		}
		if len(block) < 1024 {
			return recs, ends, api.EndWhole
		}
	}
}

// crafted is bytes that are a log for a while.
func crafted(r *rand.Rand) []byte {
	var log []byte
	open := false
	for range r.Intn(12) {
		left := 1024 - len(log)%1024
		if left < 7 {
			log = append(log, zeros(left)...)
			if r.Intn(15) == 0 {
				log[len(log)-1-r.Intn(left)] = byte(r.Intn(3))
			}
			left = 1024
		}
		room := left - 7
		n := []int{0, room, r.Intn(room + 1), max(room-r.Intn(9), 0), min(r.Intn(9), room), min(room+1, 0xffff)}[r.Intn(26)%6]
		if n > room && r.Intn(4) > 0 {
			n = room
		}
		kind := byte(1 + r.Intn(2))
		if open {
			kind = byte(3 + r.Intn(2))
		}
		if r.Intn(25) == 0 {
			kind = byte(r.Intn(6))
		}
		open = kind == 2 || kind == 3
		log = append(log, fragment(kind, text(n))...)
	}
	switch r.Intn(4) {
	case 0:
		log = log[:r.Intn(len(log)+1)]
	case 1:
		if len(log) > 0 {
			log[r.Intn(len(log))] ^= 1 << r.Intn(8)
		}
	case 2:
		log = append(log, zeros(r.Intn(10))...)
	}
	return log
}

func TestScanAnyBytes(t *testing.T) { // P5.3
	r := rand.New(rand.NewSource(3))
	how := map[int]int{}
	for range 6000 {
		log := crafted(r)
		recs, ends, why := told(log)
		how[why]++
		wantLog(t, "crafted", string(log), recs, ends, why)
		if t.Failed() {
			t.Fatalf("%x", log)
		}
	}
	for why := api.EndWhole; why <= api.EndBad; why++ {
		want(t, "there are some of "+strconv.Itoa(why), how[why] > 300, true)
	}
	for range 3000 {
		b := make([]byte, r.Intn(40))
		for i := range b {
			b[i] = []byte{0, 0, 1, 2, 3, 4, 0xff, byte(r.Intn(256))}[r.Intn(8)]
		}
		recs, ends, why := told(b)
		wantLog(t, "any bytes", string(b), recs, ends, why)
	}
}

func FuzzScan(f *testing.F) { // P5.3
	f.Add([]byte(fragment(1, "abc") + fragment(2, "")))
	f.Fuzz(func(t *testing.T, b []byte) {
		recs, ends, why := told(b)
		wantLog(t, "fuzzed", string(b), recs, ends, why)
	})
}

func TestRecordsLeftEarly(t *testing.T) { // P5.3, R5
	all, recs, ends := ledger(t)
	seq := wal.Records(all)
	for most := 1; most <= len(recs); most++ {
		i := 0
		for at, rec := range seq {
			want(t, "where it ends", at, ends[i])
			want(t, "the record", rec == recs[i], true)
			if i++; i == most {
				break
			}
		}
		want(t, "left behind", i, most)
	}
	for range seq {
		inner := 0
		for range seq { // each goes its own way
			inner++
		}
		want(t, "within another one", inner, len(recs))
	}
}

func TestRecordsAreThoseOfTheCall(t *testing.T) { // R5: of the argument as it was at the call
	b := []byte(fragment(1, "abc") + fragment(1, "de"))
	seq := wal.Records(b)
	clear(b)
	for range 2 {
		var got []string
		for _, rec := range seq {
			got = append(got, rec)
		}
		want(t, "the records", strings.Join(got, " "), "abc de")
	}
	b = []byte(fragment(1, "abc") + fragment(1, "de"))
	n := 0
	for range wal.Records(b) {
		clear(b)
		n++
	}
	want(t, "cleared meanwhile", n, 2)
}

func TestScanKeepsNothing(t *testing.T) { // R3
	room := []byte(fragment(1, "abc") + fragment(2, "de") + fragment(4, "fg") + fragment(1, "behind"))
	kept := bytes.Clone(room)
	b := room[:28]
	recs, _, _ := wal.Scan(b)
	for range wal.Records(b) {
	}
	wantBytes(t, "what is handed in, and the room behind it", room, string(kept))
	clear(room)
	want(t, "the records stay", strings.Join(recs, " "), "abc defg")
	b = kept[:28]
	one, _, _ := wal.Scan(b)
	two, _, _ := wal.Scan(b)
	for i := range one[:cap(one)] {
		one[:cap(one)][i] = "turned"
	}
	want(t, "answers share nothing", strings.Join(two, " "), "abc defg")
}
