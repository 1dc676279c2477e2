// Package octet has what several layers do with bytes: numbers with the highest byte first, and addresses as texts.
package octet

import "strconv"

const parts = 4

// digits are those to the base 16, the small ones.
var digits = [16]byte{'0', '1', '2', '3', '4', '5', '6', '7', '8', '9', 'a', 'b', 'c', 'd', 'e', 'f'}

// Word is the number of two bytes at i.
func Word(b []byte, i int) int { return int(b[i])<<8 | int(b[i+1]) }

// Long is the number of four bytes at i.
func Long(b []byte, i int) uint32 { return uint32(Word(b, i))<<16 | uint32(Word(b, i+2)) }

// PutWord puts a number in two bytes.
func PutWord(b []byte, n int) { b[0], b[1] = byte(n>>8), byte(n) }

// PutLong puts a number in four bytes.
func PutLong(b []byte, n uint32) {
	PutWord(b, int(n>>16))
	PutWord(b[2:], int(n&0xffff))
}

// AddWord puts a number in two bytes behind others.
func AddWord(b []byte, n int) []byte { return append(b, byte(n>>8), byte(n)) }

// AddLong puts a number in four bytes behind others.
func AddLong(b []byte, n uint32) []byte {
	return append(b, byte(n>>24), byte(n>>16), byte(n>>8), byte(n))
}

// Text is an address' text: four numbers with points between.
func Text(a uint32) string {
	s := ""
	for shift := 24; shift >= 0; shift -= 8 {
		s += strconv.Itoa(int(a >> shift & 255))
		if shift > 0 {
			s += "."
		}
	}
	return s
}

// Parse reads an address' text.
func Parse(s string) (uint32, bool) {
	a, i, n := uint32(0), 0, 0
next:
	value, digits := Digits(s[i:], 3)
	if digits == 0 || value > 255 {
		return 0, false
	}
	a, i, n = a<<8|uint32(value), i+digits, n+1
	if n < parts && i < len(s) && s[i] == '.' {
		i++
		goto next
	}
	if n < parts || i < len(s) {
		return 0, false
	}
	return a, true
}

// Digits reads the number of at most so many digits (18, at most) that s begins with: what it is, and how many digits it has; none, if a 0 stands ahead of others.
func Digits(s string, most int) (int, int) {
	value, n := 0, 0
	for n < len(s) && n < most && s[n] >= '0' && s[n] <= '9' {
		value, n = value*10+int(s[n]-'0'), n+1
	}
	if n > 1 && s[0] == '0' {
		return 0, 0
	}
	return value, n
}

// AddHex puts a byte's two small digits to the base 16 behind others.
func AddHex(b []byte, x byte) []byte { return append(b, digits[x>>4], digits[x&15]) }

// Hex reads the byte that two small digits to the base 16 at i are.
func Hex(s string, i int) (byte, bool) {
	high, ok := digit(s[i])
	low, also := digit(s[i+1])
	return high<<4 | low, ok && also
}

// digit is the value of a small digit.
func digit(c byte) (byte, bool) {
	for value, d := range digits {
		if c == d {
			return byte(value), true
		}
	}
	return 0, false
}
