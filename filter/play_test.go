package filter_test

import (
	"hash/crc32"
	"math/big"
	"math/rand"
	"slices"
	"testing"

	"atrium/api"
	"atrium/filter"
)

// places is a key's places as the chapter says them, in numbers that do not wrap by themselves.
func places(key string, m int, k int) []int {
	word := new(big.Int).Lsh(big.NewInt(1), 64)
	mix := func(x *big.Int) *big.Int {
		for _, step := range []struct {
			shift uint
			times string
		}{{30, "BF58476D1CE4E5B9"}, {27, "94D049BB133111EB"}} {
			times, _ := new(big.Int).SetString(step.times, 16)
			x = new(big.Int).Xor(x, new(big.Int).Rsh(x, step.shift))
			x.Mod(x.Mul(x, times), word)
		}
		return new(big.Int).Xor(x, new(big.Int).Rsh(x, 31))
	}
	sum := crc32.Checksum([]byte(key), crc32.MakeTable(crc32.Castagnoli))
	h := new(big.Int).Mul(big.NewInt(int64(len(key))), big.NewInt(1<<32))
	h = mix(h.Add(h, big.NewInt(int64(sum))))
	d := mix(h)
	d.SetBit(d, 0, 1)
	var l []int
	for i := range k {
		p := new(big.Int).Mul(big.NewInt(int64(i)), d)
		p.Mod(p.Add(p, h), word)
		l = append(l, int(p.Mod(p, big.NewInt(int64(m))).Int64()))
	}
	return l
}

// told is a filter as the chapter says it: the places that are 1.
type told struct {
	m, k int
	ones map[int]bool
}

func tell(keys []string, bits int) told {
	m := max(64, len(keys)*bits)
	for m%8 != 0 {
		m++
	}
	f := told{m: m, k: min(30, max(1, bits*69/100)), ones: map[int]bool{}}
	for _, key := range keys {
		for _, p := range places(key, f.m, f.k) {
			f.ones[p] = true
		}
	}
	return f
}

func (f told) bytes() []byte {
	b := make([]byte, f.m/8+1)
	for p := range f.ones {
		b[p/8] |= 1 << (p % 8)
	}
	b[f.m/8] = byte(f.k)
	return b
}

func (f told) may(key string) bool {
	for _, p := range places(key, f.m, f.k) {
		if !f.ones[p] {
			return false
		}
	}
	return true
}

// randomKeys is some, of any bytes; some of them more than once.
func randomKeys(r *rand.Rand, most int) []string {
	l := make([]string, r.Intn(most+1))
	for i := range l {
		b := make([]byte, r.Intn([]int{2, 10, 300}[r.Intn(3)]))
		r.Read(b)
		l[i] = string(b)
		if i > 0 && r.Intn(8) == 0 {
			l[i] = l[r.Intn(i)]
		}
	}
	return l
}

func TestPlays(t *testing.T) { // P7.1, P7.3, P7.4
	r := rand.New(rand.NewSource(1))
	for range 300 {
		keys, bits := randomKeys(r, 40), 1+r.Intn(32)
		b := built(t, bits, keys...)
		f := tell(keys, bits)
		wantBytes(t, "Build", b, f.bytes())
		want(t, "Check", filter.Check(b), api.OK)
		want(t, "Ones", filter.Ones(b), len(f.ones))
		want(t, "Ones, at most", filter.Ones(b) <= len(keys)*f.k, true)
		for _, key := range keys {
			want(t, "a false no", filter.May(b, key), true)
		}
		for _, key := range randomKeys(r, 20) {
			want(t, "May", filter.May(b, key), f.may(key))
		}
		if t.Failed() {
			t.Fatalf("of %q by %d", keys, bits)
		}
	}
}

func TestMayOfAnyBytes(t *testing.T) { // P7.1: of so many bits and places as the bytes say, also where Build never gives such
	r := rand.New(rand.NewSource(2))
	for range 400 {
		size, k := 8+r.Intn(40), 1+r.Intn(30)
		for _, key := range randomKeys(r, 3) {
			l := places(key, 8*size, k)
			full := make([]byte, size+1)
			for i := range full {
				full[i] = 0xff
			}
			full[size] = byte(k)
			want(t, "all 1", filter.May(full, key), true)
			just := bare(size, byte(k))
			for _, p := range l {
				just[p/8] |= 1 << (p % 8)
			}
			want(t, "just its places", filter.May(just, key), true)
			for _, p := range l {
				b := slices.Clone(full)
				b[p/8] &^= 1 << (p % 8)
				want(t, "all but one place", filter.May(b, key), false)
			}
		}
	}
}

func TestMergePlays(t *testing.T) { // P7.2, P7.3
	r := rand.New(rand.NewSource(3))
	for range 200 {
		bits := 1 + r.Intn(32)
		one, two := randomKeys(r, 30), randomKeys(r, 30)
		n := min(len(one), len(two))
		one, two = one[:n], two[:n]
		a, b := built(t, bits, one...), built(t, bits, two...)
		m, e := filter.Merge(a, b)
		want(t, "Merge", e, api.OK)
		for i := range a[:len(a)-1] {
			want(t, "a byte", m[i], a[i]|b[i])
		}
		want(t, "bytes", len(m), len(a))
		want(t, "the last byte", m[len(m)-1], a[len(a)-1])
		for _, key := range slices.Concat(one, two) {
			want(t, "a false no", filter.May(m, key), true)
		}
		want(t, "Ones", filter.Ones(m) >= max(filter.Ones(a), filter.Ones(b)) && filter.Ones(m) <= filter.Ones(a)+filter.Ones(b), true)
	}
}

func TestOrderIsNothing(t *testing.T) { // P7.4
	r := rand.New(rand.NewSource(4))
	for range 100 {
		keys, bits := append(randomKeys(r, 30), "a", "b"), 1+r.Intn(32)
		b := built(t, bits, keys...)
		other := slices.Clone(keys)
		r.Shuffle(len(other), func(i, j int) { other[i], other[j] = other[j], other[i] })
		wantBytes(t, "another order", built(t, bits, other...), b)
		// as many keys, of which another one is there twice
		wantBytes(t, "given twice", built(t, bits, append(slices.Clone(keys), "a")...), built(t, bits, append(slices.Clone(keys), "b")...))
	}
	wantBytes(t, "twice, within 64 bits", built(t, 10, "a", "a", "a"), built(t, 10, "a"))
	wantBytes(t, "no bytes, twice", built(t, 32, "", ""), built(t, 32, ""))
	want(t, "the number of keys counts", len(built(t, 32, "a", "a", "a")), 13)
}
