// Package codec is layer 2: numbers and texts as bytes, and back. See shared/doc/02-codec.md.
package codec

import "math/bits"

// castagnoli is CRC-32C's polynomial, its lowest bit first.
const castagnoli = 0x82f63b78

// word is a number of some width.
type word interface {
	uint8 | uint16 | uint32 | uint64
}

// width is how many bytes a number of that type has.
func width[N word]() int {
	return bits.Len64(uint64(^N(0))) / 8
}

// varintWidth is how many bytes the shortest form of a number has.
func varintWidth(n uint64) int {
	return (bits.Len64(n|1) + 6) / 7
}

// Crc is the check sum of bytes.
func Crc(s string) uint32 {
	sum := ^uint32(0)
	for i := range len(s) {
		sum ^= uint32(s[i])
		for range 8 {
			out := sum & 1
			sum >>= 1
			if out == 1 {
				sum ^= castagnoli
			}
		}
	}
	return ^sum
}
