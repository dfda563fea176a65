package block_test

import (
	"encoding/binary"
	"math/rand"
	"strconv"
	"strings"
	"testing"

	"atrium/api"
	"atrium/block"
)

// refuseOpen is that bytes are no block.
func refuseOpen(t *testing.T, what, s string) {
	t.Helper()
	b, e := block.Open(s)
	want(t, what, e, api.ErrBlock)
	want(t, what+": no block", b == nil, true)
}

// takeOpen is that bytes are the block of a list.
func takeOpen(t *testing.T, what, s string, l ...api.Cell) {
	t.Helper()
	b, e := block.Open(s)
	want(t, what, e, api.OK)
	wantList(t, what, b.Cells(), l)
}

// refuseSealed is that bytes are no block, whether the check sum behind them fits or not.
func refuseSealed(t *testing.T, what, body string) {
	t.Helper()
	refuseOpen(t, what, seal(body))
	refuseOpen(t, what+", a sum that does not fit", body+"\x12\x34\x56\x78")
	refuseOpen(t, what+", no sum", body)
}

// wide is a number in one byte more than it needs.
func wide(n int) string {
	b := []byte(varint(n))
	b[len(b)-1] |= 0x80
	return string(b) + "\x00"
}

func TestOpenTooFew(t *testing.T) { // P8.1
	for n := range 24 {
		for _, c := range []string{"\x00", "\x01", "\xff", "a"} {
			refuseOpen(t, strconv.Itoa(n)+" bytes", strings.Repeat(c, n))
			refuseSealed(t, strconv.Itoa(n)+" bytes", strings.Repeat(c, n))
		}
	}
	whole := built(t, 2, value("a", 2, "x"), value("a", 1, "y"), gone("b", 1))
	for n := range len(whole) {
		refuseOpen(t, "cut off", whole[:n])
		if n != len(whole)-4 {
			refuseSealed(t, "cut off", whole[:n])
		}
		refuseOpen(t, "without the first ones", whole[len(whole)-n:])
		refuseSealed(t, "without the first ones", whole[len(whole)-n:])
	}
}

func TestOpenTooMany(t *testing.T) { // P8.1
	whole := built(t, 2, value("a", 2, "x"), value("a", 1, "y"), gone("b", 1))
	body := whole[:len(whole)-4]
	for _, more := range []string{"\x00", "\x01", "\x00\x00\x00\x00", "\x00\x02", "abc", whole} {
		refuseOpen(t, "behind it", whole+more)
		refuseOpen(t, "ahead of it", more+whole)
		refuseSealed(t, "ahead of it", more+body)
		refuseSealed(t, "within it", body+more)
	}
	refuseOpen(t, "beyond MaxBlock", strings.Repeat("\x00", api.MaxBlock+1))
	refuseOpen(t, "far beyond MaxBlock", strings.Repeat("\x00\x01\x00\x00\x01k", 1<<18)+foot(1, 0))
}

func TestOpenBeyondMaxBlock(t *testing.T) { // P8.1: what Build would give, if it were not too long
	for more := range 10 {
		s := laid(fill(api.MaxBlock+more), api.MaxRestart)
		want(t, "bytes", len(s), api.MaxBlock+more)
		if more == 0 {
			takeOpen(t, "at it", s, fill(api.MaxBlock)...)
			continue
		}
		refuseOpen(t, "beyond it", s)
	}
}

func TestOpenSum(t *testing.T) { // P8.1
	cells := "\x00\x01\x01\x00\x01ax"
	body := cells + foot(2, 0)
	takeOpen(t, "its sum", seal(body), value("a", 1, "x"))
	refuseOpen(t, "no sum", body)
	refuseOpen(t, "a sum of nothing", body+seal(""))
	refuseOpen(t, "a sum of the cells", body+seal(cells)[len(cells):])
	refuseOpen(t, "a sum of the sum", seal(seal(body)))
	right := seal(body)[len(body):]
	for i := range 4 {
		for bit := range 8 {
			b := []byte(right)
			b[i] ^= 1 << bit
			refuseOpen(t, "almost its sum", body+string(b))
		}
	}
	n := binary.BigEndian.Uint32([]byte(right))
	refuseOpen(t, "the lowest byte first", string(binary.LittleEndian.AppendUint32([]byte(body), n)))
	refuseOpen(t, "its bits turned", string(binary.BigEndian.AppendUint32([]byte(body), ^n)))
}

// pieces is the bytes of two cells, (ab, 300, x) and (abc, 5, y), number by number.
func pieces() []string {
	return []string{"\x00", "\x02", "\x01", "\x00", "\xac\x02", "ab", "x", "\x02", "\x01", "\x01", "\x00", "\x05", "c", "y"}
}

// with is the pieces with another one in a place.
func with(at int, piece string) string {
	l := pieces()
	l[at] = piece
	return strings.Join(l, "")
}

func TestOpenPieces(t *testing.T) { // P8.1
	takeOpen(t, "as they are", seal(with(0, "\x00")+foot(2, 0)), value("ab", 300, "x"), value("abc", 5, "y"))
	for at, n := range map[int]int{0: 0, 1: 2, 2: 1, 4: 300, 7: 2, 8: 1, 9: 1, 11: 5} {
		refuseSealed(t, "more bytes than it needs", with(at, wide(n))+foot(2, 0))
		refuseSealed(t, "two more bytes than it needs", with(at, wide(n)[:len(wide(n))-1]+"\x80\x00")+foot(2, 0))
		for _, piece := range []string{"", "\x80", "\xff", "\xff\xff\xff\xff\xff\xff\xff\xff\xff\x01", "\x80\x80\x80\x80\x80\x80\x80\x80\x80\x01", "\x80\x80\x80\x80\x80\x80\x80\x80\x80\x02", strings.Repeat("\xff", 11), strings.Repeat("\x80", 20)} {
			refuseSealed(t, "another number", with(at, piece)+foot(2, 0))
		}
	}
	right := map[[2]int]bool{ // the numbers that stand there, and others with which the bytes are other cells
		{0, 0}: true, {1, 2}: true, {2, 1}: true, {7, 2}: true, {8, 1}: true, {9, 1}: true,
		{1, 9}: true, {2, 8}: true, {7, 0}: true, {7, 1}: true,
	}
	for _, at := range []int{0, 1, 2, 7, 8, 9} {
		for n := range 300 {
			if !right[[2]int{at, n}] {
				refuseSealed(t, "another number", with(at, varint(n))+foot(2, 0))
			}
		}
	}
	takeOpen(t, "more of the key", seal(with(1, "\x09")+foot(2, 0)), value("abx\x02\x01\x01\x00\x05c", 300, "y"))
	takeOpen(t, "more of the value", seal(with(2, "\x08")+foot(2, 0)), value("ab", 300, "x\x02\x01\x01\x00\x05cy"))
	takeOpen(t, "less that is shared", seal(with(7, "\x01")+foot(2, 0)), value("ab", 300, "x"), value("ac", 5, "y"))
	takeOpen(t, "nothing that is shared", seal(with(7, "\x00")+foot(2, 0)), value("ab", 300, "x"), value("c", 5, "y"))
	for _, at := range []int{3, 10} {
		for c := 1; c < 256; c++ { // 1: gone, but with a value
			refuseSealed(t, "gone", with(at, string([]byte{byte(c)}))+foot(2, 0))
		}
	}
	takeOpen(t, "another Seq", seal(with(4, "\x00")+foot(2, 0)), value("ab", 0, "x"), value("abc", 5, "y"))
	takeOpen(t, "MaxSeq", seal(with(11, "\xff\xff\xff\xff\xff\xff\xff\x7f")+foot(2, 0)), value("ab", 300, "x"), value("abc", api.MaxSeq, "y"))
	refuseSealed(t, "beyond MaxSeq", with(11, "\x80\x80\x80\x80\x80\x80\x80\x80\x01")+foot(2, 0))
}

func TestOpenGone(t *testing.T) { // P8.1
	takeOpen(t, "gone", seal("\x00\x01\x00\x01\x05a"+foot(1, 0)), gone("a", 5))
	for c := 2; c < 256; c++ {
		refuseSealed(t, "neither 0 nor 1", "\x00\x01\x00"+string([]byte{byte(c)})+"\x05a"+foot(1, 0))
	}
	refuseSealed(t, "with a value", "\x00\x01\x01\x01\x05ax"+foot(1, 0))
}

func TestOpenShared(t *testing.T) { // P8.1
	one := "\x00\x03\x00\x00\x05abc"
	takeOpen(t, "all that is shared", seal(one+"\x02\x01\x00\x00\x05d"+foot(2, 0)), value("abc", 5, ""), value("abd", 5, ""))
	refuseSealed(t, "one too few", one+"\x01\x02\x00\x00\x05bd"+foot(2, 0))
	refuseSealed(t, "none", one+"\x00\x03\x00\x00\x05abd"+foot(2, 0))
	takeOpen(t, "the whole key", seal(one+"\x03\x01\x00\x00\x05d"+foot(2, 0)), value("abc", 5, ""), value("abcd", 5, ""))
	refuseSealed(t, "more than the key has", one+"\x04\x01\x00\x00\x05d"+foot(2, 0))
	refuseSealed(t, "more than the key has, and nothing more", one+"\x04\x00\x00\x00\x04"+foot(2, 0))
	takeOpen(t, "another version", seal(one+"\x03\x00\x00\x00\x04"+foot(2, 0)), value("abc", 5, ""), value("abc", 4, ""))
	refuseSealed(t, "another version, not shared", one+"\x00\x03\x00\x00\x04abc"+foot(2, 0))
	refuseSealed(t, "the first one shares", "\x01\x03\x00\x00\x05abc"+foot(2, 0))
	refuseSealed(t, "a restart shares", one+"\x02\x01\x00\x00\x05d"+foot(1, 0, len(one)))
	takeOpen(t, "a restart does not share", seal(one+"\x00\x03\x00\x00\x05abd"+foot(1, 0, len(one))), value("abc", 5, ""), value("abd", 5, ""))
}

func TestOpenCells(t *testing.T) { // P8.1: lists that are no block's
	key, long := strings.Repeat("k", api.MaxKey), strings.Repeat("v", api.MaxValue)
	takeOpen(t, "MaxKey", seal("\x00\x80\x01\x00\x00\x05"+key+foot(2, 0)), value(key, 5, ""))
	takeOpen(t, "MaxValue", seal("\x00\x01\x80\x08\x00\x05a"+long+foot(2, 0)), value("a", 5, long))
	refuseSealed(t, "beyond MaxKey", "\x00\x81\x01\x00\x00\x05"+key+"k"+foot(2, 0))
	refuseSealed(t, "beyond MaxKey, shared", "\x00\x80\x01\x00\x00\x05"+key+"\x80\x01\x01\x00\x00\x05k"+foot(2, 0))
	refuseSealed(t, "beyond MaxValue", "\x00\x01\x81\x08\x00\x05a"+long+"v"+foot(2, 0))
	refuseSealed(t, "a key of no bytes", "\x00\x00\x00\x00\x05"+foot(2, 0))
	for _, c := range bad() {
		refuseOpen(t, "a cell", laid([]api.Cell{c}, 2))
		refuseOpen(t, "a cell behind one", laid([]api.Cell{value("a", 1, "x"), c}, 2))
	}
	for _, l := range unsorted() {
		refuseOpen(t, "a wrong order", laid(l, 1))
		refuseOpen(t, "a wrong order", laid(l, 2))
		refuseOpen(t, "a wrong order", laid(l, 64))
	}
}

func TestOpenFoot(t *testing.T) { // P8.1
	one, two := "\x00\x01\x00\x00\x05a", "\x00\x01\x00\x00\x05b"
	takeOpen(t, "two restarts", seal(one+two+foot(1, 0, 6)), value("a", 5, ""), value("b", 5, ""))
	takeOpen(t, "one restart", seal(one+two+foot(2, 0)), value("a", 5, ""), value("b", 5, ""))
	takeOpen(t, "the greatest restart", seal(one+two+foot(64, 0)), value("a", 5, ""), value("b", 5, ""))
	for restart := range 70000 {
		if restart == 1 || restart > 300 && restart%256 > 70 {
			continue
		}
		b, e := block.Open(seal(one + two + foot(restart, 0, 6)))
		want(t, "two restarts by "+strconv.Itoa(restart), e == api.ErrBlock && b == nil, restart%65536 != 1)
	}
	for _, restart := range []int{0, 1, 65, 66, 255, 256, 258, 32768, 65535} {
		refuseSealed(t, "one restart by "+strconv.Itoa(restart), one+two+foot(restart, 0))
	}
	for _, restart := range []int{0, 65, 256, 257, 65535} {
		refuseSealed(t, "no cells by "+strconv.Itoa(restart), foot(restart))
		refuseSealed(t, "one cell by "+strconv.Itoa(restart), one+foot(restart, 0))
	}
	for _, starts := range [][]int{{}, {0}, {6}, {6, 0}, {0, 0}, {0, 5}, {0, 7}, {0, 12}, {1, 6}, {0, 6, 12}, {0, 6, 6}, {0, -1}, {-1, 6}, {0, 6 + 256}} {
		refuseSealed(t, "other places", one+two+foot(1, starts...))
	}
	refuseSealed(t, "no cells, a restart", foot(1, 0))
	refuseSealed(t, "cells, no restart", one+foot(1))
	for count := range 300 {
		if count != 2 {
			refuseSealed(t, "another number of restarts", one+two+"\x00\x00\x00\x00\x00\x00\x00\x06"+string(binary.BigEndian.AppendUint32(nil, uint32(count)))+"\x00\x01")
		}
	}
	for _, count := range []string{"\xff\xff\xff\xff", "\x80\x00\x00\x00", "\x7f\xff\xff\xff", "\x40\x00\x00\x00", "\x40\x00\x00\x02", "\x80\x00\x00\x02", "\xc0\x00\x00\x02"} {
		refuseSealed(t, "far too many restarts", one+two+"\x00\x00\x00\x00\x00\x00\x00\x06"+count+"\x00\x01")
	}
	refuseSealed(t, "bytes left over", one+two+"\x00"+foot(1, 0, 6))
	refuseSealed(t, "four bytes left over", one+two+"\x00\x00\x00\x00"+foot(1, 0, 6))
}

func TestOpenGrowingKeys(t *testing.T) { // P8.1: keys that would be far longer than the bytes
	one := "\x00\x01\x00\x00\x01k"
	for shared := 1; len(one) < 60000; shared++ {
		one += varint(shared) + "\x01\x00\x00\x01k"
	}
	refuseSealed(t, "growing keys", one+foot(64, 0))
}

func TestTurnedBits(t *testing.T) { // P8.4: a byte's bits from the lowest on, as the check sum takes them
	r := rand.New(rand.NewSource(5))
	for _, s := range []string{
		built(t, 1), built(t, 2, value("a", 1, "x")), built(t, 2, value("ab", 7, "x"), value("abc", 5, "y")),
		built(t, 3, value("a", 300, "some bytes"), gone("a", 7), value("ab", 1<<40, ""), value("b", 5, strings.Repeat("v", 200)), gone("c", 0)),
	} {
		bits := 8 * (len(s) - 4)
		for first := range bits {
			for size := 1; size <= 32 && first+size <= bits; size++ {
				for range 3 {
					pattern := r.Uint64()&(1<<size-1) | 1 | 1<<(size-1)
					refuseOpen(t, "turned", turn(s, first, pattern))
				}
			}
		}
		for pattern := uint64(1); pattern < 1<<12; pattern += 2 {
			first := r.Intn(bits - 12)
			refuseOpen(t, "turned", turn(s, first, pattern))
		}
	}
}

// turn is bytes with some neighbouring bits turned.
func turn(s string, first int, pattern uint64) string {
	b := []byte(s)
	for i := range 64 {
		if pattern>>i&1 == 1 {
			b[(first+i)/8] ^= 1 << ((first + i) % 8)
		}
	}
	return string(b)
}
