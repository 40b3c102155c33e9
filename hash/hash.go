// Package hash is layer 1: see shared/doc/01-hash.md.
package hash

import (
	"math/bits"

	"parchment/api"
)

const (
	blockBytes  = 64 // bytes that are mixed in at once
	wordBytes   = 4  // bytes of a word
	lengthBytes = 8  // bytes that tell how many bits there were
	rounds      = 64 // steps of mixing one block in
	blockWords  = blockBytes / wordBytes

	leafMark = "\x00" // ahead of a leaf's bytes, and
	nodeMark = "\x01" // of a node's, so that neither is ever taken for the other
)

// FIPS 180-4, 4.2.2: of the cube roots of the first 64 primes, the first 32 bits behind the point.
var roundNumbers = [rounds]uint32{
	0x428a2f98, 0x71374491, 0xb5c0fbcf, 0xe9b5dba5, 0x3956c25b, 0x59f111f1, 0x923f82a4, 0xab1c5ed5,
	0xd807aa98, 0x12835b01, 0x243185be, 0x550c7dc3, 0x72be5d74, 0x80deb1fe, 0x9bdc06a7, 0xc19bf174,
	0xe49b69c1, 0xefbe4786, 0x0fc19dc6, 0x240ca1cc, 0x2de92c6f, 0x4a7484aa, 0x5cb0a9dc, 0x76f988da,
	0x983e5152, 0xa831c66d, 0xb00327c8, 0xbf597fc7, 0xc6e00bf3, 0xd5a79147, 0x06ca6351, 0x14292967,
	0x27b70a85, 0x2e1b2138, 0x4d2c6dfc, 0x53380d13, 0x650a7354, 0x766a0abb, 0x81c2c92e, 0x92722c85,
	0xa2bfe8a1, 0xa81a664b, 0xc24b8b70, 0xc76c51a3, 0xd192e819, 0xd6990624, 0xf40e3585, 0x106aa070,
	0x19a4c116, 0x1e376c08, 0x2748774c, 0x34b0bcb5, 0x391c0cb3, 0x4ed8aa4a, 0x5b9cca4f, 0x682e6ff3,
	0x748f82ee, 0x78a5636f, 0x84c87814, 0x8cc70208, 0x90befffa, 0xa4506ceb, 0xbef9a3f7, 0xc67178f2,
}

// Start is the words ahead of all bytes.
func Start() api.Words {
	// FIPS 180-4, 5.3.3: as the numbers of the rounds, of the square roots of the first eight primes.
	return api.Words{
		0x6a09e667, 0xbb67ae85, 0x3c6ef372, 0xa54ff53a,
		0x510e527f, 0x9b05688c, 0x1f83d9ab, 0x5be0cd19,
	}
}

// Mix is the words behind a block of 64 bytes; as they were, if it has another length.
func Mix(h api.Words, s string) api.Words {
	if len(s) != blockBytes {
		return h
	}
	w := roundWords(s)
	a, b, c, d, e, f, g, k := h[0], h[1], h[2], h[3], h[4], h[5], h[6], h[7]
	for i := range rounds {
		t := k + stir(e, 6, 11, 25) + choose(e, f, g) + roundNumbers[i] + w[i]
		u := stir(a, 2, 13, 22) + majority(a, b, c)
		a, b, c, d, e, f, g, k = t+u, a, b, c, d+t, e, f, g
	}
	return api.Words{h[0] + a, h[1] + b, h[2] + c, h[3] + d, h[4] + e, h[5] + f, h[6] + g, h[7] + k}
}

// Sum is the digest of bytes: SHA-256.
func Sum(s string) string {
	h := Start()
	whole := len(s) / blockBytes
	for i := range whole {
		h = Mix(h, s[i*blockBytes:(i+1)*blockBytes])
	}
	last := ending(s[whole*blockBytes:], len(s))
	for i := range len(last) / blockBytes {
		h = Mix(h, last[i*blockBytes:(i+1)*blockBytes])
	}
	return digest(h)
}

// Leaf is the digest of a leaf's bytes.
func Leaf(s string) string { return Sum(leafMark + s) }

// Node is the digest of two digests.
func Node(a, b string) string { return Sum(nodeMark + a + b) }

// Collides tells whether two texts are unlike, and have one digest.
func Collides(p api.Pair) bool { return p.A != p.B && Sum(p.A) == Sum(p.B) }

// roundWords is a block's own words, and those that each round behind them draws from earlier ones.
func roundWords(s string) [rounds]uint32 {
	var w [rounds]uint32
	for i := range blockWords {
		w[i] = word(s[i*wordBytes : (i+1)*wordBytes])
	}
	for i := blockWords; i < rounds; i++ {
		w[i] = w[i-16] + shifted(w[i-15], 7, 18, 3) + w[i-7] + shifted(w[i-2], 17, 19, 10)
	}
	return w
}

// ending is the blocks behind the whole ones: the bytes that are left over, 80 (base 16), noughts, and how many bits all the bytes are.
func ending(left string, many int) string {
	var place [2 * blockBytes]byte
	n := copy(place[:], left)
	place[n] = 0x80
	end := blockBytes
	if n+1+lengthBytes > blockBytes {
		end = 2 * blockBytes
	}
	length := uint64(many) * 8
	for i := range lengthBytes {
		place[end-1-i] = byte(length >> (8 * i))
	}
	return string(place[:end])
}

// word is the number of four bytes, the highest first.
func word(s string) uint32 {
	return uint32(s[0])<<24 | uint32(s[1])<<16 | uint32(s[2])<<8 | uint32(s[3])
}

// digest is the words' bytes, the highest of each first.
func digest(h api.Words) string {
	var out [api.HashBytes]byte
	for i, w := range h {
		for k := range wordBytes {
			out[i*wordBytes+k] = byte(w >> (24 - 8*k))
		}
	}
	return string(out[:])
}

// stir is a word turned to the right three times over, put together.
func stir(x uint32, a, b, c int) uint32 {
	return bits.RotateLeft32(x, -a) ^ bits.RotateLeft32(x, -b) ^ bits.RotateLeft32(x, -c)
}

// shifted is like stir, but what the third one pushes out is lost.
func shifted(x uint32, a, b, c int) uint32 {
	return bits.RotateLeft32(x, -a) ^ bits.RotateLeft32(x, -b) ^ x>>c
}

// choose takes each bit of y where x has a one, else of z.
func choose(x, y, z uint32) uint32 { return x&y ^ ^x&z }

// majority takes each bit as most of the three have it.
func majority(x, y, z uint32) uint32 { return x&y ^ x&z ^ y&z }
