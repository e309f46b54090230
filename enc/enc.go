// Package enc turns bytes into texts and back (chapter 1).
package enc

import "strconv"

// maxDigits keeps every number that Int reads below 10^18, so that it fits an int.
const maxDigits = 18

// Hex tells b in two digits a byte.
func Hex(b []byte) string {
	s := make([]byte, 0, 2*len(b))
	for _, c := range b {
		s = append(s, hexDigit(c>>4), hexDigit(c&15))
	}
	return string(s)
}

// Unhex answers the bytes whose Hex s is.
func Unhex(s string) ([]byte, bool) {
	if len(s)%2 != 0 {
		return nil, false
	}
	b := make([]byte, 0, len(s)/2)
	for i := 0; i < len(s); i += 2 {
		high, ok := hexValue(s[i])
		low, also := hexValue(s[i+1])
		if !ok || !also {
			return nil, false
		}
		b = append(b, high<<4|low)
	}
	return b, true
}

func hexDigit(v byte) byte {
	switch {
	case v < 10:
		return '0' + v
	default:
		return 'a' + v - 10
	}
}

// hexValue knows no capital digits: Hex writes none, so no bytes have such a text.
func hexValue(c byte) (byte, bool) {
	switch {
	case '0' <= c && c <= '9':
		return c - '0', true
	case 'a' <= c && c <= 'f':
		return c - 'a' + 10, true
	default:
		return 0, false
	}
}

// Base64 tells each three bytes of b in four characters, filled up with '='.
func Base64(b []byte) string {
	s := make([]byte, 0, (len(b)+2)/3*4)
	for len(b) >= 3 {
		s = append(s, sixDigit(b[0]>>2), sixDigit(b[0]<<4|b[1]>>4), sixDigit(b[1]<<2|b[2]>>6), sixDigit(b[2]))
		b = b[3:]
	}
	switch len(b) {
	case 1:
		s = append(s, sixDigit(b[0]>>2), sixDigit(b[0]<<4), '=', '=')
	case 2:
		s = append(s, sixDigit(b[0]>>2), sixDigit(b[0]<<4|b[1]>>4), sixDigit(b[1]<<2), '=')
	}
	return string(s)
}

// Unbase64 answers the bytes whose Base64 s is.
func Unbase64(s string) ([]byte, bool) {
	if len(s)%4 != 0 {
		return nil, false
	}
	digits := s[:len(s)-filling(s)]
	b := make([]byte, 0, len(s)/4*3)
	held, bits := uint32(0), 0
	for i := range len(digits) {
		v, ok := sixValue(digits[i])
		if !ok {
			return nil, false
		}
		held, bits = held<<6|uint32(v), bits+6
		if bits >= 8 {
			bits -= 8
			b = append(b, byte(held>>bits))
			held &= 1<<bits - 1
		}
	}
	// Base64 leaves missing bits 0: with others there is a second text for the same bytes.
	if held != 0 {
		return nil, false
	}
	return b, true
}

// filling counts the '=' at the end of s that may stand for missing bytes; a third one never may.
func filling(s string) int {
	n := 0
	for n < 2 && n < len(s) && s[len(s)-1-n] == '=' {
		n++
	}
	return n
}

// sixDigit looks at the low six bits alone, so that callers need not mask what they shift.
func sixDigit(v byte) byte {
	v &= 63
	switch {
	case v < 26:
		return 'A' + v
	case v < 52:
		return 'a' + v - 26
	case v < 62:
		return '0' + v - 52
	case v == 62:
		return '+'
	default:
		return '/'
	}
}

func sixValue(c byte) (byte, bool) {
	switch {
	case 'A' <= c && c <= 'Z':
		return c - 'A', true
	case 'a' <= c && c <= 'z':
		return c - 'a' + 26, true
	case '0' <= c && c <= '9':
		return c - '0' + 52, true
	case c == '+':
		return 62, true
	case c == '/':
		return 63, true
	default:
		return 0, false
	}
}

// Int reads a number from 0 to 10^18 - 1, told without sign and without a 0 ahead.
func Int(s string) (int, bool) {
	if len(s) == 0 || len(s) > maxDigits || len(s) > 1 && s[0] == '0' {
		return 0, false
	}
	n := 0
	for i := range len(s) {
		v, ok := decimalValue(s[i])
		if !ok {
			return 0, false
		}
		n = n*10 + int(v)
	}
	return n, true
}

func decimalValue(c byte) (byte, bool) {
	switch {
	case '0' <= c && c <= '9':
		return c - '0', true
	default:
		return 0, false
	}
}

// Text tells n in decimal digits.
func Text(n int) string {
	return strconv.Itoa(n)
}

// Pack lays the texts of l behind each other, each with its length ahead.
func Pack(l []string) []byte {
	size := 0
	for _, s := range l {
		size += 4 + len(s)
	}
	b := make([]byte, 0, size)
	for _, s := range l {
		b = appendNumber(b, uint64(len(s)), 4)
		b = append(b, s...)
	}
	return b
}

// Unpack answers the list whose Pack b is.
func Unpack(b []byte) ([]string, bool) {
	var l []string
	for len(b) > 0 {
		if len(b) < 4 {
			return nil, false
		}
		size, rest := number(b[:4]), b[4:]
		if size > uint64(len(rest)) {
			return nil, false
		}
		l = append(l, string(rest[:size]))
		b = rest[size:]
	}
	return l, true
}

// Put64 tells n in eight bytes.
func Put64(n uint64) []byte {
	return appendNumber(make([]byte, 0, 8), n, 8)
}

// Get64 reads the number that Put64 told.
func Get64(b []byte) (uint64, bool) {
	if len(b) != 8 {
		return 0, false
	}
	return number(b), true
}

// appendNumber writes the highest byte first: so texts stand in the order of their numbers.
func appendNumber(b []byte, n uint64, size int) []byte {
	for i := size - 1; i >= 0; i-- {
		b = append(b, byte(n>>(8*i)))
	}
	return b
}

func number(b []byte) uint64 {
	n := uint64(0)
	for _, c := range b {
		n = n<<8 | uint64(c)
	}
	return n
}
