package hash

import "math/bits"

// md5State is what MD5 carries from block to block.
type md5State [4]uint32

func newMD5() *md5State {
	return &md5State{0x67452301, 0xefcdab89, 0x98badcfe, 0x10325476}
}

// take takes in the whole blocks that b begins with, and answers what is behind them.
func (m *md5State) take(b []byte) []byte {
	words := md5Words()
	for len(b) >= blockSize {
		m.mix(&words, b[:blockSize])
		b = b[blockSize:]
	}
	return b
}

// sum ends a copy of the state, so that more may be taken in behind it.
func (m *md5State) sum(rest []byte, size int) []byte {
	last := padded(rest)
	for i := range 8 {
		last[len(last)-8+i] = byte(uint64(size) << 3 >> (8 * i))
	}
	end := *m
	end.take(last)
	s := make([]byte, 0, 16)
	for _, w := range end {
		s = append(s, byte(w), byte(w>>8), byte(w>>16), byte(w>>24))
	}
	return s
}

// mix takes in one block.
func (m *md5State) mix(words *[64]uint32, block []byte) {
	var text [16]uint32
	for i := range text {
		t := block[4*i:]
		text[i] = uint32(t[0]) | uint32(t[1])<<8 | uint32(t[2])<<16 | uint32(t[3])<<24
	}
	a, b, c, d := m[0], m[1], m[2], m[3]
	for i := range 64 {
		var f uint32
		var at, turn int
		switch i / 16 {
		case 0:
			f, at, turn = b&c|d&^b, i, [4]int{7, 12, 17, 22}[i%4]
		case 1:
			f, at, turn = b&d|c&^d, (5*i+1)%16, [4]int{5, 9, 14, 20}[i%4]
		case 2:
			f, at, turn = b^c^d, (3*i+5)%16, [4]int{4, 11, 16, 23}[i%4]
		default:
			f, at, turn = c^(b|^d), 7*i%16, [4]int{6, 10, 15, 21}[i%4]
		}
		f = bits.RotateLeft32(a+f+words[i]+text[at], turn)
		a, b, c, d = d, b+f, b, c
	}
	m[0] += a
	m[1] += b
	m[2] += c
	m[3] += d
}

// md5Words are the first 32 bits behind the point of the sines of 1 to 64, without their signs.
func md5Words() [64]uint32 {
	return [64]uint32{
		0xd76aa478, 0xe8c7b756, 0x242070db, 0xc1bdceee, 0xf57c0faf, 0x4787c62a, 0xa8304613, 0xfd469501,
		0x698098d8, 0x8b44f7af, 0xffff5bb1, 0x895cd7be, 0x6b901122, 0xfd987193, 0xa679438e, 0x49b40821,
		0xf61e2562, 0xc040b340, 0x265e5a51, 0xe9b6c7aa, 0xd62f105d, 0x02441453, 0xd8a1e681, 0xe7d3fbc8,
		0x21e1cde6, 0xc33707d6, 0xf4d50d87, 0x455a14ed, 0xa9e3e905, 0xfcefa3f8, 0x676f02d9, 0x8d2a4c8a,
		0xfffa3942, 0x8771f681, 0x6d9d6122, 0xfde5380c, 0xa4beea44, 0x4bdecfa9, 0xf6bb4b60, 0xbebfbc70,
		0x289b7ec6, 0xeaa127fa, 0xd4ef3085, 0x04881d05, 0xd9d4d039, 0xe6db99e5, 0x1fa27cf8, 0xc4ac5665,
		0xf4292244, 0x432aff97, 0xab9423a7, 0xfc93a039, 0x655b59c3, 0x8f0ccc92, 0xffeff47d, 0x85845dd1,
		0x6fa87e4f, 0xfe2ce6e0, 0xa3014314, 0x4e0811a1, 0xf7537e82, 0xbd3af235, 0x2ad7d2bb, 0xeb86d391,
	}
}
