// Package sha: SHA-256 (FIPS 180-4), written out, as the program takes no hash from the library.
package sha

import (
	"math/bits"

	"forks/api"
)

const (
	blockLen  = 64 // bytes that are stirred in at a time
	lengthLen = 8  // bytes in which the last block tells the text's length
	rounds    = 64
)

// The first 32 bits of the fractions of the cube roots of the first 64 primes.
var roundWords = [rounds]uint32{
	0x428a2f98, 0x71374491, 0xb5c0fbcf, 0xe9b5dba5, 0x3956c25b, 0x59f111f1, 0x923f82a4, 0xab1c5ed5,
	0xd807aa98, 0x12835b01, 0x243185be, 0x550c7dc3, 0x72be5d74, 0x80deb1fe, 0x9bdc06a7, 0xc19bf174,
	0xe49b69c1, 0xefbe4786, 0x0fc19dc6, 0x240ca1cc, 0x2de92c6f, 0x4a7484aa, 0x5cb0a9dc, 0x76f988da,
	0x983e5152, 0xa831c66d, 0xb00327c8, 0xbf597fc7, 0xc6e00bf3, 0xd5a79147, 0x06ca6351, 0x14292967,
	0x27b70a85, 0x2e1b2138, 0x4d2c6dfc, 0x53380d13, 0x650a7354, 0x766a0abb, 0x81c2c92e, 0x92722c85,
	0xa2bfe8a1, 0xa81a664b, 0xc24b8b70, 0xc76c51a3, 0xd192e819, 0xd6990624, 0xf40e3585, 0x106aa070,
	0x19a4c116, 0x1e376c08, 0x2748774c, 0x34b0bcb5, 0x391c0cb3, 0x4ed8aa4a, 0x5b9cca4f, 0x682e6ff3,
	0x748f82ee, 0x78a5636f, 0x84c87814, 0x8cc70208, 0x90befffa, 0xa4506ceb, 0xbef9a3f7, 0xc67178f2,
}

// state is what is known of the text so far.
type state [8]uint32

// Sum tells the SHA-256 of a text.
func Sum(s string) [api.HashLen]byte {
	h := state{0x6a09e667, 0xbb67ae85, 0x3c6ef372, 0xa54ff53a, 0x510e527f, 0x9b05688c, 0x1f83d9ab, 0x5be0cd19}
	rest := len(s) % blockLen
	h = stirAll(h, s[:len(s)-rest])
	h = stirAll(h, ending(s[len(s)-rest:], len(s)))
	return h.sum()
}

// ending tells the last block or two. The length stands there too, lest two texts come to the same blocks.
func ending(rest string, length int) string {
	size := blockLen
	if len(rest)+1+lengthLen > blockLen {
		size = 2 * blockLen
	}
	var b [2 * blockLen]byte
	copy(b[:], rest)
	b[len(rest)] = 0x80
	inBits := uint64(length) * 8
	for i := range lengthLen {
		b[size-1-i] = byte(inBits >> (8 * i))
	}
	return string(b[:size])
}

func stirAll(h state, blocks string) state {
	for len(blocks) >= blockLen {
		h = stir(h, spread(blocks[:blockLen]))
		blocks = blocks[blockLen:]
	}
	return h
}

// spread makes a word for each round of a block.
func spread(block string) [rounds]uint32 {
	var w [rounds]uint32
	for i := range blockLen {
		w[i/4] = w[i/4]<<8 | uint32(block[i])
	}
	for i := blockLen / 4; i < rounds; i++ {
		w[i] = w[i-16] + shifted(w[i-15], 7, 18, 3) + w[i-7] + shifted(w[i-2], 17, 19, 10)
	}
	return w
}

func stir(h state, w [rounds]uint32) state {
	v0, v1, v2, v3, v4, v5, v6, v7 := h[0], h[1], h[2], h[3], h[4], h[5], h[6], h[7]
	for i := range rounds {
		choice := v4&v5 ^ ^v4&v6
		majority := v0&v1 ^ v0&v2 ^ v1&v2
		x := v7 + turned(v4, 6, 11, 25) + choice + roundWords[i] + w[i]
		y := turned(v0, 2, 13, 22) + majority
		v0, v1, v2, v3, v4, v5, v6, v7 = x+y, v0, v1, v2, v3+x, v4, v5, v6
	}
	return state{h[0] + v0, h[1] + v1, h[2] + v2, h[3] + v3, h[4] + v4, h[5] + v5, h[6] + v6, h[7] + v7}
}

// turned and shifted are the standard's big and small sigma: they differ in whether the third is a turn or a shift.
func turned(x uint32, a, b, c int) uint32 {
	return bits.RotateLeft32(x, -a) ^ bits.RotateLeft32(x, -b) ^ bits.RotateLeft32(x, -c)
}

func shifted(x uint32, a, b, shift int) uint32 {
	return bits.RotateLeft32(x, -a) ^ bits.RotateLeft32(x, -b) ^ x>>shift
}

func (h state) sum() [api.HashLen]byte {
	var out [api.HashLen]byte
	for i := range out {
		out[i] = byte(h[i/4] >> (24 - 8*(i%4)))
	}
	return out
}
