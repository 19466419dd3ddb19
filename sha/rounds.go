package sha

import "math/bits"

const (
	hashWords   = 8  // words of a digest
	wordBytes   = 4  // bytes of a word
	blockBytes  = 64 // bytes of a block
	blockWords  = 16 // words of a block
	roundCount  = 64 // rounds of a block
	lengthBytes = 8  // bytes of a text's length in bits, at the end of its last block
	partBytes   = 4  // bytes of a part's length
)

// firstWords are the words ahead of the first block: FIPS 180-4, section 5.3.3.
var firstWords = [hashWords]uint32{
	0x6a09e667, 0xbb67ae85, 0x3c6ef372, 0xa54ff53a, 0x510e527f, 0x9b05688c, 0x1f83d9ab, 0x5be0cd19,
}

// roundNumbers are the numbers of the rounds: FIPS 180-4, section 4.2.2.
var roundNumbers = [roundCount]uint32{
	0x428a2f98, 0x71374491, 0xb5c0fbcf, 0xe9b5dba5, 0x3956c25b, 0x59f111f1, 0x923f82a4, 0xab1c5ed5,
	0xd807aa98, 0x12835b01, 0x243185be, 0x550c7dc3, 0x72be5d74, 0x80deb1fe, 0x9bdc06a7, 0xc19bf174,
	0xe49b69c1, 0xefbe4786, 0x0fc19dc6, 0x240ca1cc, 0x2de92c6f, 0x4a7484aa, 0x5cb0a9dc, 0x76f988da,
	0x983e5152, 0xa831c66d, 0xb00327c8, 0xbf597fc7, 0xc6e00bf3, 0xd5a79147, 0x06ca6351, 0x14292967,
	0x27b70a85, 0x2e1b2138, 0x4d2c6dfc, 0x53380d13, 0x650a7354, 0x766a0abb, 0x81c2c92e, 0x92722c85,
	0xa2bfe8a1, 0xa81a664b, 0xc24b8b70, 0xc76c51a3, 0xd192e819, 0xd6990624, 0xf40e3585, 0x106aa070,
	0x19a4c116, 0x1e376c08, 0x2748774c, 0x34b0bcb5, 0x391c0cb3, 0x4ed8aa4a, 0x5b9cca4f, 0x682e6ff3,
	0x748f82ee, 0x78a5636f, 0x84c87814, 0x8cc70208, 0x90befffa, 0xa4506ceb, 0xbef9a3f7, 0xc67178f2,
}

// mix is the words behind a block more.
func mix(words [hashWords]uint32, block [blockBytes]byte) [hashWords]uint32 {
	spread := spreadOut(block)
	a, b, c, d := words[0], words[1], words[2], words[3]
	e, f, g, h := words[4], words[5], words[6], words[7]
	for t := range roundCount {
		choice := e&f ^ ^e&g
		most := a&b ^ a&c ^ b&c
		x := h + turned(e, 6, 11, 25) + choice + roundNumbers[t] + spread[t]
		y := turned(a, 2, 13, 22) + most
		h, g, f, e = g, f, e, d+x
		d, c, b, a = c, b, a, x+y
	}
	for i, w := range [hashWords]uint32{a, b, c, d, e, f, g, h} {
		words[i] += w
	}
	return words
}

// spreadOut is a word for each round: those of the block, then mixtures of those ahead.
func spreadOut(block [blockBytes]byte) [roundCount]uint32 {
	var out [roundCount]uint32
	for i, b := range block {
		out[i/wordBytes] = out[i/wordBytes]<<8 | uint32(b)
	}
	for t := range roundCount - blockWords {
		x, y := out[t+1], out[t+14]
		x = bits.RotateLeft32(x, -7) ^ bits.RotateLeft32(x, -18) ^ x>>3
		y = bits.RotateLeft32(y, -17) ^ bits.RotateLeft32(y, -19) ^ y>>10
		out[t+blockWords] = out[t] + x + out[t+9] + y
	}
	return out
}

// turned is a word turned to the right by three numbers of bits, and the three added bit by bit.
func turned(w uint32, i, j, k int) uint32 {
	return bits.RotateLeft32(w, -i) ^ bits.RotateLeft32(w, -j) ^ bits.RotateLeft32(w, -k)
}
