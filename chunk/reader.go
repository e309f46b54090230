package chunk

import (
	"strconv"

	"stowage/api"
)

// reader goes over the bytes of a body. The first fault stays: behind it nothing is read any more.
type reader struct {
	rest  []byte
	fault api.Errno
}

// chunk reads a chunk, and asks of the last one that nothing is behind it.
func (r *reader) chunk() (data []byte, signature string) {
	size := number(r.digits(1, maxDigits))
	r.text(signatureBegin)
	signature = r.digits(signatureSize, signatureSize)
	r.text(lineEnd)
	data = r.take(size)
	r.text(lineEnd)
	if size == 0 {
		r.expect(len(r.rest) == 0)
	}
	return data, signature
}

// number is what a chunk's length tells; 0 where a fault left no digits.
func number(digits string) int {
	n, _ := strconv.ParseUint(digits, base, 64)
	return int(n)
}

// expect has the body be of a wrong form, if ok does not hold.
func (r *reader) expect(ok bool) {
	if r.fault == api.OK && !ok {
		r.fault = api.ErrBadRequest
	}
}

// take takes n bytes, whatever they are.
func (r *reader) take(n int) []byte {
	if r.fault == api.OK && n > len(r.rest) {
		r.fault = api.ErrIncompleteBody
	}
	if r.fault != api.OK {
		return nil
	}
	taken := r.rest[:n]
	r.rest = r.rest[n:]
	return taken
}

// text takes just these bytes. Those that are there are asked ahead of whether all are: a body that ends here may be wrong already.
func (r *reader) text(want string) {
	there := min(len(want), len(r.rest))
	r.expect(string(r.rest[:there]) == want[:there])
	r.take(len(want))
}

// digits takes as many digits as there are, up to most. Where fewer than least are followed by another byte the form is wrong; where they are the end of the body, more of them might have come.
func (r *reader) digits(least, most int) string {
	n := 0
	for n < min(most, len(r.rest)) && isDigit(r.rest[n]) {
		n++
	}
	r.expect(n >= least || n == len(r.rest))
	return string(r.take(max(n, least)))
}

// isDigit knows no capital digits, as no chunk has them.
func isDigit(c byte) bool {
	return '0' <= c && c <= '9' || 'a' <= c && c <= 'f'
}
