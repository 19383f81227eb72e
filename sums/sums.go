// Package sums is layer 1: sums over bytes, and numbers as bytes. See shared/doc/01-sums.md.
package sums

import (
	"slices"

	"burnish/api"
)

const (
	polynomial = 0xedb88320 // of the CRC, lowest bit first
	modulus    = 65521      // of the Adler sum
	lowHalf    = 0xffff     // of an Adler sum: a
	piece      = 1 << 16    // bytes whose Adler sum has room in 64 bits without the modulus
)

// Crc is the CRC of the parts, one after the other.
func Crc(parts ...[]byte) int {
	after := afterFour()
	register := ^uint32(0)
	for _, part := range parts {
		for _, x := range part {
			register ^= uint32(x)
			for range 2 {
				register = register>>4 ^ after[register&15]
			}
		}
	}
	return int(^register)
}

// afterFour is what four steps leave of each register below 16. The bits above those four only move down meanwhile, so that a byte takes two lookups instead of eight steps.
func afterFour() [16]uint32 {
	var out [16]uint32
	for i := range uint32(16) {
		register := i
		for range 4 {
			register = step(register)
		}
		out[i] = register
	}
	return out
}

// step is the register after one of the eight steps of a byte.
func step(register uint32) uint32 {
	if register&1 == 1 {
		return register>>1 ^ polynomial
	}
	return register >> 1
}

// Adler is the Adler sum of the parts, one after the other.
func Adler(parts ...[]byte) int {
	a, b := 1, 0
	for _, part := range parts {
		for some := range slices.Chunk(part, piece) {
			for _, x := range some {
				a += int(x)
				b += a
			}
			a %= modulus
			b %= modulus
		}
	}
	return b<<16 | a
}

// Join is the Adler sum of two texts, one after the other, by their sums and the number of the second one's bytes.
func Join(a, b, n int) int {
	// The second text's sum began with 1; behind the first text it begins with the first one's a, and each of its bytes adds the difference to b once.
	more := a&lowHalf - 1
	low := rest(more + b&lowHalf)
	high := rest(a>>16 + b>>16 + n%modulus*more)
	return high<<16 | low
}

// rest is n modulo the modulus, never negative.
func rest(n int) int {
	return (n%modulus + modulus) % modulus
}

// Put is the bytes of out with a number of that size behind them.
func Put(out []byte, size, n int) ([]byte, error) {
	if !isSize(size) {
		return nil, api.ErrForm
	}
	if n < 0 || n >= 1<<(8*size) {
		return nil, api.ErrRange
	}
	// Appending to out itself could write into memory that it shares with others.
	all := make([]byte, 0, len(out)+size)
	all = append(all, out...)
	for i := range size {
		all = append(all, byte(n>>(8*(size-1-i))))
	}
	return all, nil
}

// Take is the number of that size that bytes begin with, and the bytes behind it.
func Take(b []byte, size int) (int, []byte, error) {
	if !isSize(size) {
		return 0, nil, api.ErrForm
	}
	if len(b) < size {
		return 0, nil, api.ErrEnd
	}
	n := 0
	for _, x := range b[:size] {
		n = n<<8 | int(x)
	}
	return n, append([]byte{}, b[size:]...), nil
}

// isSize tells whether numbers may have that many bytes.
func isSize(size int) bool {
	return 1 <= size && size <= 4
}
