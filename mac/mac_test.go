package mac_test

import (
	"crypto/hkdf"
	"crypto/hmac"
	"crypto/sha256"
	"encoding/binary"
	"encoding/hex"
	"math"
	"math/big"
	"math/rand"
	"strings"
	"testing"

	"atrium/mac"
)

// want fails the test, if what was told is not what should be.
func want[T comparable](t *testing.T, what string, got, should T) {
	t.Helper()
	if got != should {
		t.Errorf("%s: %v, not %v", what, got, should)
	}
}

// wantText is want of bytes.
func wantText(t *testing.T, what, got, should string) {
	t.Helper()
	if got != should {
		t.Errorf("%s: %x, not %x", what, got, should)
	}
}

// wantTold is want of bytes, and whether there are any.
func wantTold(t *testing.T, what, got string, ok bool, should string, shouldBe bool) {
	t.Helper()
	if got != should || ok != shouldBe {
		t.Errorf("%s: %x %v, not %x %v", what, got, ok, should, shouldBe)
	}
}

// bytesOf is what digits say, for tests that must not lean on what they test.
func bytesOf(t *testing.T, digits string) string {
	t.Helper()
	b, err := hex.DecodeString(digits)
	if err != nil {
		t.Fatal(err)
	}
	return string(b)
}

// text is so many bytes, all kinds of them.
func text(r *rand.Rand, n int) string {
	b := make([]byte, n)
	r.Read(b)
	return string(b)
}

// sum is SHA-256 by the library.
func sum(s string) string {
	b := sha256.Sum256([]byte(s))
	return string(b[:])
}

// hmacOf is HMAC by the library.
func hmacOf(key, s string) string {
	h := hmac.New(sha256.New, []byte(key))
	h.Write([]byte(s))
	return string(h.Sum(nil))
}

// edges are lengths about a block, and about where the padding needs one more.
var edges = []int{0, 1, 2, 31, 32, 54, 55, 56, 57, 62, 63, 64, 65, 118, 119, 120, 121, 127, 128, 129, 183, 184, 191, 192, 193}

func TestSumVectors(t *testing.T) { // P4.1: those of FIPS 180
	for _, x := range []struct{ s, should string }{
		{"", "e3b0c44298fc1c149afbf4c8996fb92427ae41e4649b934ca495991b7852b855"},
		{"abc", "ba7816bf8f01cfea414140de5dae2223b00361a396177a9cb410ff61f20015ad"},
		{"abcdbcdecdefdefgefghfghighijhijkijkljklmklmnlmnomnopnopq", "248d6a61d20638b8e5c026930c3e6039a33ce45964ff2167f6ecedd419db06c1"},
		{strings.Repeat("a", 1000000), "cdc76e5c9914fb9281a1c7e284d73e67f1809a48a497200e046d39ccc7112cd0"},
	} {
		wantText(t, "Sum", mac.Sum(x.s), bytesOf(t, x.should))
	}
}

func TestSum(t *testing.T) { // P4.1: all lengths about four blocks
	r := rand.New(rand.NewSource(41))
	for n := range 300 {
		s := text(r, n)
		wantText(t, "Sum", mac.Sum(s), sum(s))
		want(t, "its length", len(mac.Sum(s)), 32)
	}
	for _, n := range []int{1 << 13, 1<<16 - 9, 1 << 20} { // the number of bits has more than one byte
		s := text(r, n)
		wantText(t, "Sum", mac.Sum(s), sum(s))
	}
}

func TestHasher(t *testing.T) { // P4.1
	h := mac.New()
	want(t, "Len", h.Len(), 0)
	wantText(t, "Sum of nothing", h.Sum(), sum(""))
	all := ""
	r := rand.New(rand.NewSource(42))
	for range 200 {
		s := text(r, r.Intn(40))
		h.Write(s)
		all += s
		want(t, "Len", h.Len(), len(all))
		wantText(t, "Sum", h.Sum(), sum(all))
		wantText(t, "Sum again", h.Sum(), sum(all))
		want(t, "Len behind Sum", h.Len(), len(all))
	}
	h.Write("")
	wantText(t, "nothing written", h.Sum(), sum(all))
	want(t, "Len", h.Len(), len(all))
	wantText(t, "another one is new", mac.New().Sum(), sum(""))
}

func TestFork(t *testing.T) { // P4.1
	r := rand.New(rand.NewSource(43))
	for _, n := range edges {
		s := text(r, n)
		h := mac.New()
		h.Write(s)
		c := h.Fork()
		want(t, "Len", c.Len(), n)
		wantText(t, "Sum", c.Sum(), sum(s))
		h.Write("one")
		wantText(t, "the fork has none of it", c.Sum(), sum(s))
		c.Write("the other")
		wantText(t, "the first one", h.Sum(), sum(s+"one"))
		wantText(t, "the fork", c.Sum(), sum(s+"the other"))
		want(t, "Len", h.Len(), n+3)
		want(t, "Len", c.Len(), n+9)
		d := c.Fork()
		c.Write(s)
		wantText(t, "a fork of a fork", d.Sum(), sum(s+"the other"))
	}
}

func TestNilHasher(t *testing.T) { // P4.1
	var h *mac.Hasher
	h.Write("")
	h.Write("abc")
	wantText(t, "Sum", h.Sum(), "")
	want(t, "Len", h.Len(), 0)
	want(t, "Fork", h.Fork(), nil)
}

func TestPieces(t *testing.T) { // P4.4: cut at every place, into two and three
	r := rand.New(rand.NewSource(44))
	for _, n := range edges {
		s := text(r, n)
		for i := range n + 1 {
			h := mac.New()
			h.Write(s[:i])
			h.Write(s[i:])
			wantText(t, "two pieces", h.Sum(), mac.Sum(s))
			want(t, "Len", h.Len(), n)
			k := i + r.Intn(n-i+1)
			h = mac.New()
			h.Write(s[:i])
			h.Write(s[i:k])
			h.Write(s[k:])
			wantText(t, "three pieces", h.Sum(), mac.Sum(s))
		}
		h := mac.New()
		for i := range n {
			h.Write(s[i : i+1])
		}
		wantText(t, "byte by byte", h.Sum(), mac.Sum(s))
	}
}

func TestRandomPieces(t *testing.T) { // P4.4
	r := rand.New(rand.NewSource(45))
	for range 300 {
		s := text(r, r.Intn(2000))
		h := mac.New()
		for rest := s; rest != ""; {
			n := min(len(rest), r.Intn(1+r.Intn(300)))
			h.Write(rest[:n])
			rest = rest[n:]
		}
		wantText(t, "Sum", h.Sum(), mac.Sum(s))
		wantText(t, "as the library's", h.Sum(), sum(s))
	}
}

func TestMac(t *testing.T) { // P4.2
	r := rand.New(rand.NewSource(46))
	for _, k := range edges {
		for _, n := range edges {
			key, s := text(r, k), text(r, n)
			wantText(t, "Mac", mac.Mac(key, s), hmacOf(key, s))
		}
	}
	want(t, "its length", len(mac.Mac("", "")), 32)
}

func TestMacVectors(t *testing.T) { // P4.2: those of RFC 4231
	for _, x := range []struct{ key, text, should string }{
		{strings.Repeat("\x0b", 20), "Hi There", "b0344c61d8db38535ca8afceaf0bf12b881dc200c9833da726e9376c2e32cff7"},
		{"Jefe", "what do ya want for nothing?", "5bdcc146bf60754e6a042426089575c75a003f089d2739839dec58b964ec3843"},
		{strings.Repeat("\xaa", 131), "Test Using Larger Than Block-Size Key - Hash Key First", "60e431591ee0b67f0d8a26aacbf5b77f8e0bc6213728c5140546040f0ee37f54"},
	} {
		wantText(t, "Mac", mac.Mac(x.key, x.text), bytesOf(t, x.should))
	}
}

func TestKeys(t *testing.T) { // P4.6: bytes 0 behind a key of at most 64; a longer one, and its sum
	r := rand.New(rand.NewSource(47))
	for n := range 130 {
		key, s := text(r, n), text(r, 50)
		same := mac.Sum(key)
		if n <= 64 {
			same = key + strings.Repeat("\x00", 64-n)
		}
		wantText(t, "Mac", mac.Mac(same, s), mac.Mac(key, s))
	}
	key := text(r, 64)
	want(t, "64 bytes, and a byte 0 behind them, are not the same", mac.Mac(key, "x") == mac.Mac(key+"\x00", "x"), false)
	want(t, "64 bytes and their sum are not the same", mac.Mac(key, "x") == mac.Mac(mac.Sum(key), "x"), false)
}

// derived is HKDF by the library.
func derived(t *testing.T, key, salt, info string, n int) string {
	t.Helper()
	b, err := hkdf.Key(sha256.New, []byte(key), []byte(salt), info, n)
	if err != nil {
		t.Fatal(err)
	}
	return string(b)
}

func TestDerive(t *testing.T) { // P4.2
	r := rand.New(rand.NewSource(48))
	for _, n := range []int{0, 1, 31, 32, 33, 63, 64, 65, 255, 256, 8127, 8128, 8129, 8159, 8160} {
		for _, size := range []int{0, 1, 32, 63, 64, 65, 100} {
			key, salt, info := text(r, size), text(r, r.Intn(100)), text(r, r.Intn(100))
			s, ok := mac.Derive(key, salt, info, n)
			wantTold(t, "Derive", s, ok, derived(t, key, salt, info, n), true)
			s, ok = mac.Derive(key, "", "", n)
			wantTold(t, "with no salt and no info", s, ok, derived(t, key, "", "", n), true)
			s, ok = mac.Derive(key, strings.Repeat("\x00", 32), "", n)
			wantTold(t, "with a salt of bytes 0", s, ok, derived(t, key, "", "", n), true)
		}
	}
	for _, n := range []int{math.MinInt, -8160, -1, 8161, 8192, math.MaxInt} {
		s, ok := mac.Derive("key", "salt", "info", n)
		wantTold(t, "no number of bytes", s, ok, "", false)
	}
}

func TestDeriveVectors(t *testing.T) { // P4.2: those of RFC 5869
	key := strings.Repeat("\x0b", 22)
	s, ok := mac.Derive(key, bytesOf(t, "000102030405060708090a0b0c"), bytesOf(t, "f0f1f2f3f4f5f6f7f8f9"), 42)
	wantTold(t, "the first one", s, ok, bytesOf(t, "3cb25f25faacd57a90434f64d0362f2a2d2d0a90cf1a5a4c5db02d56ecc4c5bf34007208d5b887185865"), true)
	s, ok = mac.Derive(key, "", "", 42)
	wantTold(t, "the third one", s, ok, bytesOf(t, "8da4e775a563c18f715f802a063c5a31b8a11f5c5ee1879ec3454e5f3c738d2d9d201395faa4b61a96c8"), true)
}

func TestDerivedBeginnings(t *testing.T) { // P4.6
	most, ok := mac.Derive("a key", "a salt", "an info", 8160)
	want(t, "Derive", ok, true)
	want(t, "its length", len(most), 8160)
	for n := range 8161 {
		if n > 200 && n%97 != 0 && n < 8090 {
			continue
		}
		s, ok := mac.Derive("a key", "a salt", "an info", n)
		wantTold(t, "fewer", s, ok, most[:n], true)
	}
}

func TestEqual(t *testing.T) { // P4.2
	r := rand.New(rand.NewSource(49))
	for _, n := range edges {
		s := text(r, n)
		want(t, "the same", mac.Equal(s, strings.Clone(s)), true)
		want(t, "one byte more", mac.Equal(s, s+"\x00"), false)
		want(t, "one byte less", mac.Equal(s+"\x00", s), false)
		for i := range n {
			for bit := range 8 {
				b := []byte(s)
				b[i] ^= 1 << bit
				want(t, "a bit turned", mac.Equal(s, string(b)), false)
				want(t, "a bit turned", mac.Equal(string(b), s), false)
			}
		}
	}
	want(t, "the same bytes in another order", mac.Equal("ab", "ba"), false)
	want(t, "two bits that are turned alike", mac.Equal("aa", "bb"), false)
}

func TestChain(t *testing.T) { // P4.2
	r := rand.New(rand.NewSource(50))
	for _, n := range append([]int{255, 256, 257, 65535, 65536, 1 << 24}, edges...) {
		for _, size := range []int{0, 1, 32, 64} {
			head, entry := text(r, size), text(r, n)
			length := binary.BigEndian.AppendUint64(nil, uint64(n))
			wantText(t, "Chain", mac.Chain(head, entry), sum(head+string(length)+entry))
			if n > 1<<20 {
				break
			}
		}
	}
	want(t, "cut elsewhere", mac.Chain("a", "bc") == mac.Chain("ab", "c"), false)
	want(t, "the other way round", mac.Chain("a", "b") == mac.Chain("b", "a"), false)
}

// rootBits is the first 32 bits of the fractional part of the n-th root of x.
func rootBits(x, n int64) uint32 {
	target := new(big.Int).Lsh(big.NewInt(x), uint(32*n))
	low, high := big.NewInt(0), new(big.Int).Lsh(big.NewInt(x), 32)
	for {
		middle := new(big.Int).Add(low, high)
		middle.Add(middle, big.NewInt(1)).Rsh(middle, 1)
		if low.Cmp(high) >= 0 {
			return uint32(low.Uint64())
		}
		if new(big.Int).Exp(middle, big.NewInt(n), nil).Cmp(target) <= 0 {
			low = middle
		} else {
			high = middle.Sub(middle, big.NewInt(1))
		}
	}
}

func TestConstantsAreTheRoots(t *testing.T) { // words: the sum of one block, from its words alone
	var primes []int64
	for x := int64(2); len(primes) < 64; x++ {
		if big.NewInt(x).ProbablyPrime(10) {
			primes = append(primes, x)
		}
	}
	want(t, "K(0)", rootBits(2, 3), 0x428A2F98)
	want(t, "K(63)", rootBits(primes[63], 3), 0xC67178F2)
	want(t, "H(0)", rootBits(2, 2), 0x6A09E667)
	want(t, "H(7)", rootBits(primes[7], 2), 0x5BE0CD19)
	ror := func(x uint32, n int) uint32 { return x>>n | x<<(32-n) }
	w := make([]uint32, 64)
	w[0] = 0x80000000
	for t := 16; t < 64; t++ {
		x, y := w[t-15], w[t-2]
		w[t] = (ror(y, 17) ^ ror(y, 19) ^ y>>10) + w[t-7] + (ror(x, 7) ^ ror(x, 18) ^ x>>3) + w[t-16]
	}
	var first, v [8]uint32
	for i := range v {
		first[i] = rootBits(primes[i], 2)
	}
	v = first
	for t := range 64 {
		t1 := v[7] + (ror(v[4], 6) ^ ror(v[4], 11) ^ ror(v[4], 25)) + (v[4]&v[5] ^ ^v[4]&v[6]) + rootBits(primes[t], 3) + w[t]
		t2 := (ror(v[0], 2) ^ ror(v[0], 13) ^ ror(v[0], 22)) + (v[0]&v[1] ^ v[0]&v[2] ^ v[1]&v[2])
		v = [8]uint32{t1 + t2, v[0], v[1], v[2], v[3] + t1, v[4], v[5], v[6]}
	}
	var should []byte
	for i := range v {
		should = binary.BigEndian.AppendUint32(should, first[i]+v[i])
	}
	wantText(t, "the sum of nothing", mac.Sum(""), string(should))
}

func TestExamples(t *testing.T) {
	want(t, "example 1", mac.Hex(mac.Sum("abc")), "ba7816bf8f01cfea414140de5dae2223b00361a396177a9cb410ff61f20015ad")
	want(t, "example 2", mac.Hex(mac.Mac("key", "The quick brown fox jumps over the lazy dog")), "f7bc83f430538424b13298e6aa6fb143ef4d59a14946175997479dbc2d1a3cd8")
	want(t, "example 3", mac.Base64("\xfb\xff"), "-_8")
	s, ok := mac.Unbase64("-_9")
	wantTold(t, "example 3", s, ok, "", false)
}
