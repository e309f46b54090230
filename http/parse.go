package http

import (
	"bytes"
	"slices"
	"strconv"
	"strings"

	"stowage/api"
	"stowage/chars"
	"stowage/enc"
)

const (
	maxMethod    = 16
	maxChunkLine = 256
	maxDigits    = 8
)

// state is what of a request is read next.
type state int

const (
	atRequestLine state = iota
	atHeader
	atHeadEnd
	atBody
	atChunkLine
	atChunk
	atTrailer
	atEnd
)

// Parse reads one request from the beginning of b.
func Parse(b []byte) Step {
	r := &reader{b: b}
	next := atRequestLine
reading:
	for {
		switch next {
		case atRequestLine:
			next = r.requestLine()
		case atHeader:
			next = r.header()
		case atHeadEnd:
			next = r.headEnd()
		case atBody:
			next = r.body()
		case atChunkLine:
			next = r.chunkLine()
		case atChunk:
			next = r.chunk()
		case atTrailer:
			next = r.trailer()
		default:
			break reading
		}
	}
	return r.told
}

// reader goes over the bytes of a request. Each of its methods that tells a state reads what stands ahead and tells what follows.
type reader struct {
	b    []byte
	at   int // how many bytes of b are read
	told Step

	head   int // how many bytes are read of the head and the trailers
	fields int // how many lines of them are neither the request line nor empty
	req    api.Request

	size   int      // of the body or the chunk that stands ahead
	pieces [][]byte // of the body; they lie in b until the request is whole
	sum    int      // of their sizes
}

// more ends the reading of a request that is not whole yet.
func (r *reader) more() state {
	r.told = Step{Kind: api.HMore}
	return atEnd
}

// bad ends the reading of a request that is wrong.
func (r *reader) bad(e api.Errno) state {
	r.told = Step{Kind: api.HBad, Fault: e, Close: true}
	return atEnd
}

// done ends the reading of a request that is whole.
func (r *reader) done() state {
	r.req.Body = slices.Concat(r.pieces...)
	_, expects := Get(r.req.Headers, "expect")
	r.told = Step{
		Kind:     api.HDone,
		Used:     r.at,
		Req:      r.req,
		Close:    asksToClose(r.req.Headers),
		Continue: expects && len(r.req.Body) > 0,
	}
	return atEnd
}

// line takes the next line. No more bytes than most may stand ahead of its end, and no more than open be there as long as its end is not; beyond that its fault is long. False: the reading has ended.
// What a line holds is left to the caller: no form has room for a 0D or 0A, so that nobody needs to ask for them.
func (r *reader) line(most, open int, long api.Errno) (string, bool) {
	rest := r.b[r.at:]
	size := bytes.Index(rest, []byte(lineEnd))
	switch {
	case size < 0 && len(rest) <= open:
		r.more()
		return "", false
	case size < 0 || size > most:
		r.bad(long)
		return "", false
	}
	r.at += size + len(lineEnd)
	return string(rest[:size]), true
}

func (r *reader) requestLine() state {
	text, ok := r.line(api.MaxLine, api.MaxLine+1, api.ErrRequestURITooLong)
	if !ok {
		return atEnd
	}
	r.head = r.at
	method, behind, _ := strings.Cut(text, " ")
	target, version, _ := strings.Cut(behind, " ")
	switch {
	case !isMethod(method) || !isTarget(target) || !isVersion(version):
		return r.bad(api.ErrBadRequest)
	case version != onlyVersion:
		return r.bad(api.ErrHTTPVersionNotSupported)
	case target[0] != '/' && target != "*":
		return r.bad(api.ErrInvalidURI)
	}
	r.req.Method, r.req.Target = method, target
	return atHeader
}

func isMethod(s string) bool {
	return len(s) <= maxMethod && chars.Token(s)
}

func isTarget(s string) bool {
	for i := range len(s) {
		if s[i] < 0x21 || s[i] > 0x7E {
			return false
		}
	}
	return s != ""
}

// isVersion tells whether s is a version, be it one that is spoken here or not.
func isVersion(s string) bool {
	number, ok := strings.CutPrefix(s, "HTTP/")
	return ok && len(number) == 3 && isDigit(number[0]) && number[1] == '.' && isDigit(number[2])
}

func isDigit(c byte) bool {
	return '0' <= c && c <= '9'
}

// field takes the next line of the head or the trailers. The empty line is told as a header without a name, which no other line is.
func (r *reader) field() (api.Header, bool) {
	left := api.MaxHead - r.head
	text, ok := r.line(left-len(lineEnd), left, api.ErrRequestHeaderSectionTooLarge)
	if !ok {
		return api.Header{}, false
	}
	r.head += len(text) + len(lineEnd)
	if text == "" {
		return api.Header{}, true
	}
	r.fields++
	name, value, found := strings.Cut(text, ":")
	switch {
	case r.fields > api.MaxHeaders:
		r.bad(api.ErrRequestHeaderSectionTooLarge)
		return api.Header{}, false
	case !found || !chars.Token(name) || !chars.Value(value):
		r.bad(api.ErrBadRequest)
		return api.Header{}, false
	}
	return api.Header{Name: chars.Lower(name), Value: chars.Trim(value)}, true
}

func (r *reader) header() state {
	h, ok := r.field()
	switch {
	case !ok:
		return atEnd
	case h.Name == "":
		return atHeadEnd
	}
	r.req.Headers = append(r.req.Headers, h)
	return atHeader
}

// trailer reads a line that says nothing, but must be as it should.
func (r *reader) trailer() state {
	h, ok := r.field()
	switch {
	case !ok:
		return atEnd
	case h.Name == "":
		return r.done()
	}
	return atTrailer
}

// headEnd asks the headers of how the body is told.
func (r *reader) headEnd() state {
	if e := faultOf(r.req.Headers); e != api.OK {
		return r.bad(e)
	}
	if _, chunked := Get(r.req.Headers, "transfer-encoding"); chunked {
		return atChunkLine
	}
	length, _ := Get(r.req.Headers, "content-length")
	r.size, _ = enc.Int(length)
	return atBody
}

// faultOf tells the first thing that is wrong about the headers together.
func faultOf(l []api.Header) api.Errno {
	encoding, encoded := Get(l, "transfer-encoding")
	length, measured := Get(l, "content-length")
	expected, expects := Get(l, "expect")
	size, isSize := enc.Int(length)
	switch {
	case len(All(l, "host")) != 1, encoded && measured, len(All(l, "transfer-encoding")) > 1:
		return api.ErrBadRequest
	case encoded && chars.Lower(encoding) != "chunked":
		return api.ErrNotImplemented
	case len(All(l, "content-length")) > 1, measured && !isSize:
		return api.ErrBadRequest
	case size > api.MaxBody:
		return api.ErrEntityTooLarge
	case expects && chars.Lower(expected) != "100-continue":
		return api.ErrExpectationFailed
	}
	return api.OK
}

// take takes the bytes of the body that stand ahead, if all of them are there.
func (r *reader) take() bool {
	if len(r.b)-r.at < r.size {
		return false
	}
	r.pieces = append(r.pieces, r.b[r.at:r.at+r.size])
	r.at += r.size
	r.sum += r.size
	return true
}

func (r *reader) body() state {
	if !r.take() {
		return r.more()
	}
	return r.done()
}

func (r *reader) chunkLine() state {
	text, ok := r.line(maxChunkLine, maxChunkLine+1, api.ErrBadRequest)
	if !ok {
		return atEnd
	}
	size, ok := chunkSize(text)
	switch {
	case !ok:
		return r.bad(api.ErrBadRequest)
	case r.sum+size > api.MaxBody:
		return r.bad(api.ErrEntityTooLarge)
	case size == 0:
		return atTrailer
	}
	r.size = size
	return atChunk
}

// chunkSize reads the line ahead of a chunk.
func chunkSize(text string) (int, bool) {
	digits, behind, _ := strings.Cut(text, ";")
	size, err := strconv.ParseUint(digits, 16, 64)
	if err != nil || len(digits) > maxDigits || !chars.Value(behind) {
		return 0, false
	}
	return int(size), true
}

// chunk reads a chunk and the end behind it, of which each byte is looked at as soon as it is there.
func (r *reader) chunk() state {
	if !r.take() {
		return r.more()
	}
	rest := r.b[r.at:]
	end := string(rest[:min(len(rest), len(lineEnd))])
	switch {
	case !strings.HasPrefix(lineEnd, end):
		return r.bad(api.ErrBadRequest)
	case end != lineEnd:
		return r.more()
	}
	r.at += len(lineEnd)
	return atChunkLine
}

// asksToClose tells whether the headers ask for the connection's end.
func asksToClose(l []api.Header) bool {
	for _, value := range All(l, "connection") {
		for _, part := range chars.Split(value, ',') {
			if chars.Lower(chars.Trim(part)) == "close" {
				return true
			}
		}
	}
	return false
}
