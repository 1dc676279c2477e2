// Package sum is layer 1: sums of words, going round. See shared/doc/01-sum.md.
package sum

import (
	"pointsman/api"
	"pointsman/octet"
)

// Add gives the partial sum with b's words added, as a number of 16 bits.
func Add(partial uint32, b []byte) uint32 {
	total := uint64(partial)
	for i := range (len(b) + 1) / 2 {
		total += uint64(wordAt(b, 2*i))
	}
	return uint32(carry(total))
}

// Fold gives the partial sum as a number of 16 bits, turned.
func Fold(partial uint32) uint16 {
	return ^uint16(carry(uint64(partial)))
}

// Of gives the folded sum of b.
func Of(b []byte) uint16 {
	return Fold(Add(0, b))
}

// Right tells whether b, with its folded sum in it, comes to all bits set.
func Right(b []byte) bool {
	return Add(0, b) == 0xffff
}

// Turn gives the folded sum of bytes in which the word was is now now.
func Turn(sum, was, now uint16) uint16 {
	return Fold(uint32(^sum) + uint32(^was) + uint32(now))
}

// Pseudo gives the partial sum of the twelve bytes that stand ahead of a segment.
func Pseudo(from, to api.Addr, kind byte, n int) uint32 {
	b := octet.AddLong(octet.AddLong(nil, uint32(from)), uint32(to))
	return Add(0, octet.AddWord(append(b, 0, kind), n))
}

// wordAt is the word that begins at i; a last byte alone has a 0 behind it.
func wordAt(b []byte, i int) uint32 {
	word := uint32(b[i]) << 8
	if i+1 < len(b) {
		word |= uint32(b[i+1])
	}
	return word
}

// carry adds what is beyond 16 bits at the lowest one until nothing is beyond.
func carry(total uint64) uint64 {
again:
	if total>>16 != 0 {
		total = total>>16 + total&0xffff
		goto again
	}
	return total
}
