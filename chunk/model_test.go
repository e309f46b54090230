package chunk

import (
	"bytes"
	"crypto/hmac"
	"crypto/sha256"
	"fmt"
	"regexp"
	"strconv"
	"strings"
	"testing"

	"stowage/api"
	"stowage/sig"
)

// This file reads chapter 19 a second time, by templates and the library's sums.

var who = sig.Who{ID: "K", Date: "20130524T000000Z", Scope: "20130524/us-east-1/s3/aws4_request", Signature: strings.Repeat("5e", 32), Key: []byte("a key"), Payload: "STREAMING-AWS4-HMAC-SHA256-PAYLOAD"}

// signModel is what 19.1 says of Sign.
func signModel(w sig.Who, last, data string) string {
	m := hmac.New(sha256.New, w.Key)
	fmt.Fprintf(m, "AWS4-HMAC-SHA256-PAYLOAD\n%s\n%s\n%s\ne3b0c44298fc1c149afbf4c8996fb92427ae41e4649b934ca495991b7852b855\n%x", w.Date, w.Scope, last, sha256.Sum256([]byte(data)))
	return fmt.Sprintf("%x", m.Sum(nil))
}

// link is a chunk, as it stands in a body.
type link struct {
	digits, word, signature, end, data, tail string
}

func (l link) text() string {
	return l.digits + l.word + l.signature + l.end + l.data + l.tail
}

func textOf(l []link) string {
	s := ""
	for _, c := range l {
		s += c.text()
	}
	return s
}

// chain is the chunks that hold these pieces, signed, and the last one.
func chain(w sig.Who, pieces ...string) []link {
	var l []link
	last := w.Signature
	for _, piece := range append(pieces, "") {
		last = signModel(w, last, piece)
		l = append(l, link{fmt.Sprintf("%x", len(piece)), ";chunk-signature=", last, "\r\n", piece, "\r\n"})
	}
	return l
}

var headForm = regexp.MustCompile(`\A([0-9a-f]{1,8});chunk-signature=([0-9a-f]{64})\r\n`)

// fits tells whether s begins as the template does, as far as both go; a # there is any digit.
func fits(s, template string) bool {
	for i := range min(len(s), len(template)) {
		if template[i] == '#' && !strings.Contains("0123456789abcdef", s[i:i+1]) || template[i] != '#' && template[i] != s[i] {
			return false
		}
	}
	return true
}

// mayBegin tells whether s is the beginning of a chunk, or more than a chunk.
func mayBegin(s string) bool {
	if m := headForm.FindStringSubmatch(s); m != nil {
		size, _ := strconv.ParseInt(m[1], 16, 64)
		behind := s[len(m[0]):]
		return int64(len(behind)) < size || fits(behind[size:], "\r\n")
	}
	for digits := 1; digits <= 8; digits++ {
		template := strings.Repeat("#", digits) + ";chunk-signature=" + strings.Repeat("#", 64) + "\r\n"
		if len(s) < len(template) && fits(s, template) {
			return true
		}
	}
	return false
}

// firstModel parts the first chunk from what stands behind it; false, if s does not hold all of it.
func firstModel(s string) (l link, behind string, ok bool) {
	m := headForm.FindStringSubmatch(s)
	if m == nil {
		return link{}, "", false
	}
	size, _ := strconv.ParseInt(m[1], 16, 64)
	behind = s[len(m[0]):]
	if int64(len(behind)) < size+2 || behind[size:size+2] != "\r\n" {
		return link{}, "", false
	}
	return link{m[1], "", m[2], "", behind[:size], "\r\n"}, behind[size+2:], true
}

// decodeModel is what 19.2 says of Decode.
func decodeModel(w sig.Who, body string, size int) (string, api.Errno) {
	data, last := "", w.Signature
	for {
		l, behind, ok := firstModel(body)
		switch {
		case !ok && mayBegin(body):
			return "", api.ErrIncompleteBody
		case !ok, l.data == "" && behind != "":
			return "", api.ErrBadRequest
		case l.signature != signModel(w, last, l.data):
			return "", api.ErrSignatureDoesNotMatch
		case l.data == "" && len(data) != size:
			return "", api.ErrIncompleteBody
		case l.data == "":
			return data, api.OK
		}
		data, last, body = data+l.data, l.signature, behind
	}
}

// encodeModel is what 19.3 says of Encode, byte by byte: a piece is cut off where its size is reached.
func encodeModel(w sig.Who, data string, sizes []int) string {
	var pieces []string
	piece := ""
	for i := range len(data) {
		for len(sizes) > 0 && sizes[0] < 1 {
			sizes = sizes[1:]
		}
		piece += data[i : i+1]
		if len(sizes) > 0 && len(piece) == sizes[0] {
			pieces, piece, sizes = append(pieces, piece), "", sizes[1:]
		}
	}
	if piece != "" {
		pieces = append(pieces, piece)
	}
	return textOf(chain(w, pieces...))
}

// decode holds Decode against the model, and tells what it tells.
func decode(t *testing.T, w sig.Who, body string, size int) (string, api.Errno) {
	t.Helper()
	data, e := Decode(w, []byte(body), size)
	if want, f := decodeModel(w, body, size); string(data) != want || e != f {
		t.Fatalf("%.400q %d: %.100q %d, not %.100q %d", body, size, data, e, want, f)
	}
	return string(data), e
}

// refused asks that Decode answers this error and no bytes.
func refused(t *testing.T, w sig.Who, body string, size int, want api.Errno) {
	t.Helper()
	if data, e := decode(t, w, body, size); e != want || data != "" {
		t.Errorf("%.400q %d: %.100q %d, not %d", body, size, data, e, want)
	}
}

// taken asks that Decode answers these bytes.
func taken(t *testing.T, w sig.Who, body, want string) {
	t.Helper()
	if data, e := decode(t, w, body, len(want)); e != api.OK || data != want {
		t.Errorf("%.400q: %.100q %d, not %.100q", body, data, e, want)
	}
}

func sample(n int) string {
	return string(bytes.Repeat([]byte("The quick brown fox jumps over the lazy dog. "), n/45+1)[:n])
}
