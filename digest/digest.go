// Package digest is layer 1: see shared/doc/01-digest.md.
package digest

import (
	"math/bits"

	"hindsight/api"
)

const blockLen = 64

// rounds has the first 32 bits behind the points of the cube roots of the first 64 primes.
var rounds = [64]uint32{
	0x428a2f98, 0x71374491, 0xb5c0fbcf, 0xe9b5dba5, 0x3956c25b, 0x59f111f1, 0x923f82a4, 0xab1c5ed5,
	0xd807aa98, 0x12835b01, 0x243185be, 0x550c7dc3, 0x72be5d74, 0x80deb1fe, 0x9bdc06a7, 0xc19bf174,
	0xe49b69c1, 0xefbe4786, 0x0fc19dc6, 0x240ca1cc, 0x2de92c6f, 0x4a7484aa, 0x5cb0a9dc, 0x76f988da,
	0x983e5152, 0xa831c66d, 0xb00327c8, 0xbf597fc7, 0xc6e00bf3, 0xd5a79147, 0x06ca6351, 0x14292967,
	0x27b70a85, 0x2e1b2138, 0x4d2c6dfc, 0x53380d13, 0x650a7354, 0x766a0abb, 0x81c2c92e, 0x92722c85,
	0xa2bfe8a1, 0xa81a664b, 0xc24b8b70, 0xc76c51a3, 0xd192e819, 0xd6990624, 0xf40e3585, 0x106aa070,
	0x19a4c116, 0x1e376c08, 0x2748774c, 0x34b0bcb5, 0x391c0cb3, 0x4ed8aa4a, 0x5b9cca4f, 0x682e6ff3,
	0x748f82ee, 0x78a5636f, 0x84c87814, 0x8cc70208, 0x90befffa, 0xa4506ceb, 0xbef9a3f7, 0xc67178f2,
}

// Hash is a sum of bytes that come bit by bit.
type Hash struct {
	words [8]uint32
	block [blockLen]byte // its first n%blockLen bytes wait to be mixed in
	n     uint64         // how many bytes came
}

// New: of nothing. The words are the first 32 bits behind the points of the square roots of the first eight primes.
func New() *Hash {
	return &Hash{words: [8]uint32{
		0x6a09e667, 0xbb67ae85, 0x3c6ef372, 0xa54ff53a, 0x510e527f, 0x9b05688c, 0x1f83d9ab, 0x5be0cd19,
	}}
}

// Add: bytes more.
func (h *Hash) Add(s string) {
	for len(s) > 0 {
		k := copy(h.block[h.n%blockLen:], s)
		h.n += uint64(k)
		s = s[k:]
		if h.n%blockLen == 0 {
			h.mix()
		}
	}
}

// Sum: of all that came.
func (h *Hash) Sum() api.Sum {
	// More may come behind what came, so only a copy is closed.
	closed := *h
	closed.Add(ending(h.n))
	var sum api.Sum
	for i, x := range closed.words {
		for j := range 4 {
			sum[4*i+j] = byte(x >> (24 - 8*j))
		}
	}
	return sum
}

// Of: the sum of bytes.
func Of(s string) api.Sum {
	return sumOf(s)
}

// Leaf: of a leaf's bytes.
func Leaf(s string) api.Sum {
	return sumOf("\x00", s)
}

// Node: of two sums, the left one first.
func Node(a, b api.Sum) api.Sum {
	return sumOf("\x01", string(a[:]), string(b[:]))
}

// Hex: a sum as digits.
func Hex(a api.Sum) string {
	const digits = "0123456789abcdef"
	s := make([]byte, 0, 2*len(a))
	for _, x := range a {
		s = append(s, digits[x>>4], digits[x&15])
	}
	return string(s)
}

func sumOf(parts ...string) api.Sum {
	h := New()
	for _, s := range parts {
		h.Add(s)
	}
	return h.Sum()
}

// ending is what follows n bytes, so that they fill whole blocks.
func ending(n uint64) string {
	zeros := int((blockLen + 55 - n%blockLen) % blockLen)
	s := make([]byte, 1+zeros)
	s[0] = 0x80
	for shift := 56; shift >= 0; shift -= 8 {
		s = append(s, byte(8*n>>shift))
	}
	return string(s)
}

// mix takes a whole block in.
func (h *Hash) mix() {
	words := spread(h.block)
	v := h.words
	// Eight variables are several times as fast as an array.
	a, b, c, d, e, f, g, last := v[0], v[1], v[2], v[3], v[4], v[5], v[6], v[7]
	for i, word := range words {
		x := last + (e&f ^ ^e&g) + rounds[i] + word + (turn(e, 6) ^ turn(e, 11) ^ turn(e, 25))
		y := (a&b ^ a&c ^ b&c) + (turn(a, 2) ^ turn(a, 13) ^ turn(a, 22))
		a, b, c, d, e, f, g, last = x+y, a, b, c, d+x, e, f, g
	}
	for i, word := range [8]uint32{a, b, c, d, e, f, g, last} {
		h.words[i] += word
	}
}

// spread makes the 64 words of a block's 16.
func spread(block [blockLen]byte) [64]uint32 {
	var w [64]uint32
	for i, x := range block {
		w[i/4] = w[i/4]<<8 | uint32(x)
	}
	for i := 16; i < len(w); i++ {
		p, q := w[i-15], w[i-2]
		w[i] = w[i-16] + w[i-7] +
			(turn(p, 7) ^ turn(p, 18) ^ p>>3) +
			(turn(q, 17) ^ turn(q, 19) ^ q>>10)
	}
	return w
}

// turn goes to the right.
func turn(x uint32, by int) uint32 {
	return bits.RotateLeft32(x, -by)
}
