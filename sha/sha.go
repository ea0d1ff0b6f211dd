// Package sha is layer 1, SHA-256 by its parts: see shared/doc/01-sha.md.
package sha

import (
	"math/bits"

	"charter/api"
)

const (
	blockSize  = 64
	lengthSize = 8
	// A longer text is refused by Tail, far below where its count of bits would run over.
	maxTail = 1 << 48
)

// The first 32 bits of the fractional parts of the cube roots of the first 64 primes.
var constants = [64]uint32{
	0x428a2f98, 0x71374491, 0xb5c0fbcf, 0xe9b5dba5, 0x3956c25b, 0x59f111f1, 0x923f82a4, 0xab1c5ed5,
	0xd807aa98, 0x12835b01, 0x243185be, 0x550c7dc3, 0x72be5d74, 0x80deb1fe, 0x9bdc06a7, 0xc19bf174,
	0xe49b69c1, 0xefbe4786, 0x0fc19dc6, 0x240ca1cc, 0x2de92c6f, 0x4a7484aa, 0x5cb0a9dc, 0x76f988da,
	0x983e5152, 0xa831c66d, 0xb00327c8, 0xbf597fc7, 0xc6e00bf3, 0xd5a79147, 0x06ca6351, 0x14292967,
	0x27b70a85, 0x2e1b2138, 0x4d2c6dfc, 0x53380d13, 0x650a7354, 0x766a0abb, 0x81c2c92e, 0x92722c85,
	0xa2bfe8a1, 0xa81a664b, 0xc24b8b70, 0xc76c51a3, 0xd192e819, 0xd6990624, 0xf40e3585, 0x106aa070,
	0x19a4c116, 0x1e376c08, 0x2748774c, 0x34b0bcb5, 0x391c0cb3, 0x4ed8aa4a, 0x5b9cca4f, 0x682e6ff3,
	0x748f82ee, 0x78a5636f, 0x84c87814, 0x8cc70208, 0x90befffa, 0xa4506ceb, 0xbef9a3f7, 0xc67178f2,
}

// The first 32 bits of the fractional parts of the square roots of the first eight primes.
var beginning = [8]uint32{
	0x6a09e667, 0xbb67ae85, 0x3c6ef372, 0xa54ff53a, 0x510e527f, 0x9b05688c, 0x1f83d9ab, 0x5be0cd19,
}

// Schedule is a block's schedule: P1.1.
func Schedule(block [64]byte) [64]uint32 {
	var w [64]uint32
	for i := range 16 {
		w[i] = word(block, 4*i)
	}
	for i := 16; i < len(w); i++ {
		x, y := w[i-15], w[i-2]
		s0 := rolled(x, 7) ^ rolled(x, 18) ^ x>>3
		s1 := rolled(y, 17) ^ rolled(y, 19) ^ y>>10
		w[i] = w[i-16] + s0 + w[i-7] + s1
	}
	return w
}

// Round is a round: P1.1.
func Round(v [8]uint32, n uint32) [8]uint32 {
	a, e := turn(v[0], v[1], v[2], v[4], v[5], v[6], v[7]+n)
	return [8]uint32{a, v[0], v[1], v[2], v[3] + e, v[4], v[5], v[6]}
}

// Press presses a block in: P1.1.
func Press(v [8]uint32, block [64]byte) [8]uint32 {
	// Words that stand alone stay in the machine's registers, which an array doesn't.
	a, b, c, d, e, f, g, h := v[0], v[1], v[2], v[3], v[4], v[5], v[6], v[7]
	for i, w := range Schedule(block) {
		first, added := turn(a, b, c, e, f, g, h+w+constants[i])
		a, b, c, d, e, f, g, h = first, a, b, c, d+added, e, f, g
	}
	return [8]uint32{v[0] + a, v[1] + b, v[2] + c, v[3] + d, v[4] + e, v[5] + f, v[6] + g, v[7] + h}
}

// turn tells of a round its first word, and what is added to its fourth; h is the last word with the round's number.
func turn(a, b, c, e, f, g, h uint32) (uint32, uint32) {
	s1 := rolled(e, 6) ^ rolled(e, 11) ^ rolled(e, 25)
	choice := e&f | ^e&g
	t := h + s1 + choice
	s0 := rolled(a, 2) ^ rolled(a, 13) ^ rolled(a, 22)
	majority := a&b | a&c | b&c
	return t + s0 + majority, t
}

// Tail is what stands behind so many bytes: P1.1.
func Tail(n int) ([]byte, error) {
	if n < 0 || int64(n) > maxTail {
		return nil, api.ErrArg
	}
	return tail(n), nil
}

// Sum is a digest: P1.2.
func Sum(b []byte) []byte {
	whole := len(b) - len(b)%blockSize
	// The rest goes to memory of its own: behind b the caller's may go on.
	var end []byte
	end = append(end, b[whole:]...)
	end = append(end, tail(len(b))...)
	v := pressAll(beginning, b[:whole])
	v = pressAll(v, end)
	var digest []byte
	for _, x := range v {
		digest = append(digest, byte(x>>24), byte(x>>16), byte(x>>8), byte(x))
	}
	return digest
}

// pressAll presses in what is made of whole blocks.
func pressAll(v [8]uint32, b []byte) [8]uint32 {
	for ; len(b) >= blockSize; b = b[blockSize:] {
		v = Press(v, [blockSize]byte(b))
	}
	return v
}

func tail(n int) []byte {
	zeros := blockSize - 1 - (n%blockSize+lengthSize)%blockSize
	b := make([]byte, 1+zeros+lengthSize)
	b[0] = 0x80
	count := 8 * uint64(n)
	for i := range lengthSize {
		b[len(b)-1-i] = byte(count >> (8 * i))
	}
	return b
}

func word(block [64]byte, at int) uint32 {
	return uint32(block[at])<<24 | uint32(block[at+1])<<16 | uint32(block[at+2])<<8 | uint32(block[at+3])
}

// rolled is x rolled to the right, what falls out coming in on the left.
func rolled(x uint32, by int) uint32 { return bits.RotateLeft32(x, -by) }
