package hash

import "math/bits"

// shaState is what SHA256 carries from block to block.
type shaState [8]uint32

func newSHA() *shaState {
	return &shaState{
		0x6a09e667, 0xbb67ae85, 0x3c6ef372, 0xa54ff53a,
		0x510e527f, 0x9b05688c, 0x1f83d9ab, 0x5be0cd19,
	}
}

// take takes in the whole blocks that b begins with, and answers what is behind them.
func (h *shaState) take(b []byte) []byte {
	words := shaWords()
	for len(b) >= blockSize {
		h.mix(&words, b[:blockSize])
		b = b[blockSize:]
	}
	return b
}

// sum ends a copy of the state, so that more may be taken in behind it.
func (h *shaState) sum(rest []byte, size int) []byte {
	last := padded(rest)
	for i := range 8 {
		last[len(last)-1-i] = byte(uint64(size) << 3 >> (8 * i))
	}
	end := *h
	end.take(last)
	s := make([]byte, 0, 32)
	for _, w := range end {
		s = append(s, byte(w>>24), byte(w>>16), byte(w>>8), byte(w))
	}
	return s
}

// mix takes in one block.
func (h *shaState) mix(words *[64]uint32, block []byte) {
	text := shaText(block)
	a, b, c, d, e, f, g, k := h[0], h[1], h[2], h[3], h[4], h[5], h[6], h[7]
	for i := range 64 {
		low := turned(e, 6, 11, 25) + (e&f | g&^e) + k + words[i] + text[i]
		high := turned(a, 2, 13, 22) + (a&b | a&c | b&c)
		a, b, c, d, e, f, g, k = low+high, a, b, c, d+low, e, f, g
	}
	for i, w := range [8]uint32{a, b, c, d, e, f, g, k} {
		h[i] += w
	}
}

// turned joins w turned to the right by three numbers of bits.
func turned(w uint32, x, y, z int) uint32 {
	return bits.RotateLeft32(w, -x) ^ bits.RotateLeft32(w, -y) ^ bits.RotateLeft32(w, -z)
}

// shaText tells what of the block each round takes in: the first sixteen its words, each other one what is made of those ahead.
func shaText(block []byte) [64]uint32 {
	var text [64]uint32
	for i := range text {
		switch i / 16 {
		case 0:
			t := block[4*i:]
			text[i] = uint32(t[0])<<24 | uint32(t[1])<<16 | uint32(t[2])<<8 | uint32(t[3])
		default:
			v, w := text[i-15], text[i-2]
			v = bits.RotateLeft32(v, -7) ^ bits.RotateLeft32(v, -18) ^ v>>3
			w = bits.RotateLeft32(w, -17) ^ bits.RotateLeft32(w, -19) ^ w>>10
			text[i] = text[i-16] + v + text[i-7] + w
		}
	}
	return text
}

// shaWords are the first 32 bits behind the point of the cube roots of the first 64 primes.
func shaWords() [64]uint32 {
	return [64]uint32{
		0x428a2f98, 0x71374491, 0xb5c0fbcf, 0xe9b5dba5, 0x3956c25b, 0x59f111f1, 0x923f82a4, 0xab1c5ed5,
		0xd807aa98, 0x12835b01, 0x243185be, 0x550c7dc3, 0x72be5d74, 0x80deb1fe, 0x9bdc06a7, 0xc19bf174,
		0xe49b69c1, 0xefbe4786, 0x0fc19dc6, 0x240ca1cc, 0x2de92c6f, 0x4a7484aa, 0x5cb0a9dc, 0x76f988da,
		0x983e5152, 0xa831c66d, 0xb00327c8, 0xbf597fc7, 0xc6e00bf3, 0xd5a79147, 0x06ca6351, 0x14292967,
		0x27b70a85, 0x2e1b2138, 0x4d2c6dfc, 0x53380d13, 0x650a7354, 0x766a0abb, 0x81c2c92e, 0x92722c85,
		0xa2bfe8a1, 0xa81a664b, 0xc24b8b70, 0xc76c51a3, 0xd192e819, 0xd6990624, 0xf40e3585, 0x106aa070,
		0x19a4c116, 0x1e376c08, 0x2748774c, 0x34b0bcb5, 0x391c0cb3, 0x4ed8aa4a, 0x5b9cca4f, 0x682e6ff3,
		0x748f82ee, 0x78a5636f, 0x84c87814, 0x8cc70208, 0x90befffa, 0xa4506ceb, 0xbef9a3f7, 0xc67178f2,
	}
}
