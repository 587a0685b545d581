// Package sha: digests.
package sha

import (
	"math/bits"

	"handsel/api"
)

const (
	blockSize  = 64 // bytes that are mixed in at once
	lengthSize = 8  // bytes at the end of the last block that tell the length
	hexDigits  = "0123456789abcdef"
)

// Sum is a digest.
func Sum(s string) string {
	words, constants := firstWords(), roundConstants()
	whole := len(s) - len(s)%blockSize
	mixBlocks(&words, &constants, s[:whole])
	mixBlocks(&words, &constants, lastBlocks(s[whole:], len(s)))
	return wordBytes(words)
}

// Short is the first half of a digest.
func Short(s string) string { return Sum(s)[:api.Short] }

// Hex is bytes as digits of sixteen.
func Hex(s string) string {
	out := make([]byte, 0, 2*len(s))
	for i := range len(s) {
		out = append(out, hexDigits[s[i]>>4], hexDigits[s[i]&15])
	}
	return string(out)
}

// lastBlocks is what is mixed in behind the whole blocks of a text of size
// bytes: one block, or two where the length does not fit behind rest.
func lastBlocks(rest string, size int) string {
	out := make([]byte, 0, 2*blockSize)
	out = append(out, rest...)
	out = append(out, 0x80)
	for len(out)%blockSize != blockSize-lengthSize {
		out = append(out, 0)
	}
	length := uint64(size) * 8
	for shift := 56; shift >= 0; shift -= 8 {
		out = append(out, byte(length>>shift))
	}
	return string(out)
}

// mixBlocks mixes whole blocks into the words, one by one.
func mixBlocks(words *[8]uint32, constants *[64]uint32, blocks string) {
	for at := 0; at < len(blocks); at += blockSize {
		mix(words, constants, schedule(blocks[at:at+blockSize]))
	}
}

// schedule is the words of a block, one for each round.
func schedule(block string) [64]uint32 {
	var w [64]uint32
	for i := range 16 {
		w[i] = uint32(block[4*i])<<24 | uint32(block[4*i+1])<<16 | uint32(block[4*i+2])<<8 | uint32(block[4*i+3])
	}
	for i := 16; i < len(w); i++ {
		w[i] = w[i-16] + smallSigma0(w[i-15]) + w[i-7] + smallSigma1(w[i-2])
	}
	return w
}

// mix does the rounds of one block. The standard moves each of the eight words
// one place on in every round; here the places go round instead, so that a
// round writes two words alone. 64 rounds bring every place back to where it
// began.
func mix(words *[8]uint32, constants *[64]uint32, w [64]uint32) {
	v := *words
	for i := range w {
		a, b, c, d := v[-i&7], v[(1-i)&7], v[(2-i)&7], v[(3-i)&7]
		e, f, g, h := v[(4-i)&7], v[(5-i)&7], v[(6-i)&7], v[(7-i)&7]
		t := h + bigSigma1(e) + choose(e, f, g) + constants[i] + w[i]
		v[(3-i)&7] = d + t
		v[(7-i)&7] = t + bigSigma0(a) + majority(a, b, c)
	}
	for i := range v {
		words[i] += v[i]
	}
}

// wordBytes is the words' bytes, the highest of each first.
func wordBytes(words [8]uint32) string {
	out := make([]byte, 0, api.Hash)
	for _, w := range words {
		out = append(out, byte(w>>24), byte(w>>16), byte(w>>8), byte(w))
	}
	return string(out)
}

func choose(x, y, z uint32) uint32 { return x&y ^ ^x&z }

func majority(x, y, z uint32) uint32 { return x&y ^ x&z ^ y&z }

func bigSigma0(x uint32) uint32 { return right(x, 2) ^ right(x, 13) ^ right(x, 22) }

func bigSigma1(x uint32) uint32 { return right(x, 6) ^ right(x, 11) ^ right(x, 25) }

func smallSigma0(x uint32) uint32 { return right(x, 7) ^ right(x, 18) ^ x>>3 }

func smallSigma1(x uint32) uint32 { return right(x, 17) ^ right(x, 19) ^ x>>10 }

// right turns a word to the right: the library turns to the left alone.
func right(x uint32, n int) uint32 { return bits.RotateLeft32(x, -n) }

// firstWords is the first 32 bits of the fractions of the square roots of the
// first eight primes.
func firstWords() [8]uint32 {
	return [8]uint32{
		0x6a09e667, 0xbb67ae85, 0x3c6ef372, 0xa54ff53a,
		0x510e527f, 0x9b05688c, 0x1f83d9ab, 0x5be0cd19,
	}
}

// roundConstants is the first 32 bits of the fractions of the cube roots of the
// first 64 primes.
func roundConstants() [64]uint32 {
	return [64]uint32{
		0x428a2f98, 0x71374491, 0xb5c0fbcf, 0xe9b5dba5, 0x3956c25b, 0x59f111f1, 0x923f82a4, 0xab1c5ed5,
		0xd807aa98, 0x12835b01, 0x243185be, 0x550c7dc3, 0x72be5d74, 0x80deb1fe, 0x9bdc06a7, 0xc19bf174,
		0xe49b69c1, 0xefbe4786, 0x0fc19dc6, 0x240ca1cc, 0x2de92c6f, 0x4a7484aa, 0x5cb0a9dc, 0x76f988da,
		0x983e5152, 0xa831c66d, 0xb00327c8, 0xbf597fc7, 0xc6e00bf3, 0xd5a79147, 0x06ca6351, 0x14292967,
		0x27b70a85, 0x2e1b2138, 0x4d2c6dfc, 0x53380d13, 0x650a7354, 0x766a0abb, 0x81c2c92e, 0x92722c85,
		0xa2bfe8a1, 0xa81a664b, 0xc24b8b70, 0xc76c51a3, 0xd192e819, 0xd6990624, 0xf40e3585, 0x106aa070,
		0x19a4c116, 0x1e376c08, 0x2748774c, 0x34b0bcb5, 0x391c0cb3, 0x4ed8aa4a, 0x5b9cca4f, 0x682e6ff3,
		0x748f82ee, 0x78a5636f, 0x84c87814, 0x8cc70208, 0x90befffa, 0xa4506ceb, 0xbef9a3f7, 0xc67178f2,
	}
}
