package chunk

import (
	"fmt"
	"math"
	"math/rand"
	"slices"
	"strings"
	"testing"

	"stowage/api"
	"stowage/sig"
)

// Amazon's own example of a body in chunks: whose it is, and the signatures of its three chunks.
var known = sig.Who{
	Date:      "20130524T000000Z",
	Scope:     "20130524/us-east-1/s3/aws4_request",
	Signature: "4f232c4386841ef735655705268965c44a0e4690baa4adea153f7db9fa80a0a9",
	Key:       sig.SigningKey("wJalrXUtnFEMI/K7MDENG/bPxRfiCYEXAMPLEKEY", "20130524", "us-east-1", "s3"),
	Payload:   "STREAMING-AWS4-HMAC-SHA256-PAYLOAD",
}

const (
	knownFirst  = "ad80c730a21e5b8d04586a2213dd63b9a0e99e0e2307b0ade35a65485a288648"
	knownSecond = "0055627c9e194cb4542bae2aa5492e3c1575bbb81b612b7d234b86a503ef5497"
	knownLast   = "b6c6ea8a5354eaf15b3cb7646744f4275b71ea724fed81ceb9323e279d449df9"
	knownLength = 66824
)

func knownBody() string {
	return "10000;chunk-signature=" + knownFirst + "\r\n" + strings.Repeat("a", 65536) + "\r\n" +
		"400;chunk-signature=" + knownSecond + "\r\n" + strings.Repeat("a", 1024) + "\r\n" +
		"0;chunk-signature=" + knownLast + "\r\n\r\n"
}

// 19.1

func TestSignKnown(t *testing.T) {
	for _, c := range []struct {
		last string
		size int
		want string
	}{
		{known.Signature, 65536, knownFirst},
		{knownFirst, 1024, knownSecond},
		{knownSecond, 0, knownLast},
	} {
		if s := Sign(known, c.last, []byte(strings.Repeat("a", c.size))); s != c.want {
			t.Error(c.size, s)
		}
	}
	if s := Sign(known, knownSecond, nil); s != knownLast {
		t.Error(s)
	}
	if s := Sign(known, knownSecond, []byte{}); s != knownLast {
		t.Error(s)
	}
}

// others are whoever else might have signed, each with one thing that is signed, or signs, changed.
func others(w sig.Who) []sig.Who {
	l := []sig.Who{w, w, w, w, w, w, w, w}
	l[0].Date = "20130524T000001Z"
	l[1].Date = ""
	l[2].Scope = "20130525/us-east-1/s3/aws4_request"
	l[3].Scope = w.Scope + "\n"
	l[4].Key = []byte("another key")
	l[5].Key = nil
	l[6].Key = []byte(sample(200))
	l[7].Date, l[7].Scope = w.Scope, w.Date
	return l
}

func TestSign(t *testing.T) {
	lasts := []string{"", "a", who.Signature, "\u00e9\xff\x00", "a\nb", sample(300)}
	seen := map[string]string{}
	for i, w := range append(others(who), who, sig.Who{}) {
		for _, last := range lasts {
			for _, data := range []string{"", "a", "A", "\x00", "\n", "\xff", sample(63), sample(64), sample(100000)} {
				s, asked := Sign(w, last, []byte(data)), fmt.Sprintf("%d %q %q", i, last, data)
				if s != signModel(w, last, data) {
					t.Errorf("%.100s: %s", asked, s)
				}
				if before, ok := seen[s]; ok {
					t.Errorf("%.100s and %.100s have one signature", before, asked)
				}
				seen[s] = asked
			}
		}
	}
}

// Nothing else of who signed is in the signature.
func TestSignAsksNothingElse(t *testing.T) {
	w := who
	w.ID, w.Signature, w.Payload = "other", "other", "other"
	if Sign(w, "l", []byte("data")) != Sign(who, "l", []byte("data")) {
		t.Error("other")
	}
}

// 19.3

func TestEncode(t *testing.T) {
	data := sample(40)
	for _, c := range []struct {
		size  int
		sizes []int
		want  []int
	}{
		{0, nil, nil},
		{0, []int{}, nil},
		{0, []int{0, -1, 5, math.MaxInt}, nil},
		{1, nil, []int{1}},
		{40, nil, []int{40}},
		{40, []int{40}, []int{40}},
		{40, []int{41}, []int{40}},
		{40, []int{math.MaxInt}, []int{40}},
		{40, []int{39}, []int{39, 1}},
		{40, []int{26}, []int{26, 14}},
		{40, []int{39, 1}, []int{39, 1}},
		{40, []int{39, 2}, []int{39, 1}},
		{40, []int{39, 1, 1, 1}, []int{39, 1}},
		{40, []int{1, 2, 3}, []int{1, 2, 3, 34}},
		{40, []int{10, 10, 10, 10}, []int{10, 10, 10, 10}},
		{40, []int{10, 10, 10, 9}, []int{10, 10, 10, 9, 1}},
		{40, []int{0}, []int{40}},
		{40, []int{-1}, []int{40}},
		{40, []int{0, -5, math.MinInt, 0}, []int{40}},
		{40, []int{0, 7, -5, 0, 3, math.MinInt}, []int{7, 3, 30}},
		{40, []int{7, math.MaxInt, 3}, []int{7, 33}},
		{40, []int{7, 1 << 62, math.MaxInt, -1}, []int{7, 33}},
		{40, []int{1 << 32, 1}, []int{40}},
		{3, []int{1, 1, 1, 1}, []int{1, 1, 1}},
	} {
		var pieces []string
		rest := data[:c.size]
		for _, n := range c.want {
			pieces = append(pieces, rest[:n])
			rest = rest[n:]
		}
		want := textOf(chain(who, pieces...))
		if b := string(Encode(who, []byte(data[:c.size]), c.sizes)); b != want {
			t.Errorf("%d %d: %q, not %q", c.size, c.sizes, b, want)
		}
	}
}

// By hand, but for the signatures.
func TestEncodeBytes(t *testing.T) {
	first := Sign(who, who.Signature, []byte("0123456789abcdef"))
	second := Sign(who, first, []byte("\r\n"))
	last := Sign(who, second, nil)
	want := "10;chunk-signature=" + first + "\r\n0123456789abcdef\r\n2;chunk-signature=" + second + "\r\n\r\n\r\n0;chunk-signature=" + last + "\r\n\r\n"
	if b := string(Encode(who, []byte("0123456789abcdef\r\n"), []int{16})); b != want {
		t.Errorf("%q", b)
	}
	want = "0;chunk-signature=" + Sign(who, who.Signature, nil) + "\r\n\r\n"
	if b := string(Encode(who, nil, []int{16})); b != want {
		t.Errorf("%q", b)
	}
}

func TestEncodeKnown(t *testing.T) {
	data := []byte(strings.Repeat("a", 65536+1024))
	for _, sizes := range [][]int{{65536}, {65536, 1024}, {65536, 65536}, {0, 65536, -1, 65536, 65536}} {
		if b := string(Encode(known, data, sizes)); b != knownBody() || len(b) != knownLength {
			t.Errorf("%d: %.200q", sizes, b)
		}
	}
}

// Lengths are told in small digits, without noughts ahead.
func TestLengths(t *testing.T) {
	for size, digits := range map[int]string{1: "1", 9: "9", 10: "a", 15: "f", 16: "10", 255: "ff", 256: "100", 4095: "fff", 43981: "abcd", 65535: "ffff", 65536: "10000", 1048575: "fffff", 1048576: "100000"} {
		b := string(Encode(who, []byte(sample(size)), []int{size}))
		if !strings.HasPrefix(b, digits+";") {
			t.Errorf("%d: %.20q", size, b)
		}
		taken(t, who, b, sample(size))
	}
}

func TestEncodeOfAnySizes(t *testing.T) {
	rnd := rand.New(rand.NewSource(193))
	for range 3000 {
		data, sizes := sample(rnd.Intn(60)), sizesOf(rnd)
		if b := string(Encode(who, []byte(data), sizes)); b != encodeModel(who, data, sizes) {
			t.Fatalf("%d %d: %q", len(data), sizes, b)
		}
	}
}

// sizesOf tells some sizes of all kinds.
func sizesOf(rnd *rand.Rand) []int {
	var sizes []int
	for range rnd.Intn(9) {
		n := rnd.Intn(20)
		sizes = append(sizes, []int{n, n, n, n, -n, 0, math.MaxInt - n, math.MinInt + n}[rnd.Intn(8)])
	}
	return sizes
}

// 19.4

func lengths(values ...string) []api.Header {
	l := []api.Header{{Name: "host", Value: "h"}}
	for _, value := range values {
		l = append(l, api.Header{Name: "x-amz-decoded-content-length", Value: value}, api.Header{Name: "x-amz-meta-a", Value: "3"})
	}
	return l
}

func TestBodyOfOtherPayloads(t *testing.T) {
	chunks := textOf(chain(who, "abc"))
	for _, payload := range []string{"", "UNSIGNED-PAYLOAD", strings.Repeat("0", 64), "streaming-aws4-hmac-sha256-payload", "STREAMING-AWS4-HMAC-SHA256-PAYLOAD ", " STREAMING-AWS4-HMAC-SHA256-PAYLOAD", "STREAMING-AWS4-HMAC-SHA256-PAYLOA", "STREAMING-AWS4-HMAC-SHA256-PAYLOAD-TRAILER", "STREAMING-UNSIGNED-PAYLOAD-TRAILER", "AWS4-HMAC-SHA256-PAYLOAD"} {
		w := who
		w.Payload = payload
		for _, body := range []string{"", "abc", chunks, chunks + "x", chunks[1:]} {
			for _, l := range [][]api.Header{nil, lengths(), lengths("3"), lengths("3", "3"), lengths("x"), lengths("1048577")} {
				data, e := Body(w, api.Request{Method: "PUT", Target: "/", Headers: l, Body: []byte(body)})
				if e != api.OK || string(data) != body {
					t.Errorf("%q %q %q: %q %d", payload, body, l, data, e)
				}
			}
		}
	}
}

func TestBodyInChunks(t *testing.T) {
	chunks := textOf(chain(who, "ab", "c"))
	forged := strings.Replace(chunks, "ab", "aB", 1)
	for _, c := range []struct {
		l    []api.Header
		body string
		want api.Errno
	}{
		{lengths("3"), chunks, api.OK},
		{append(lengths("3"), api.Header{Name: "X-Amz-Decoded-Content-Length", Value: "4"}), chunks, api.OK},
		{lengths("2"), chunks, api.ErrIncompleteBody},
		{lengths("4"), chunks, api.ErrIncompleteBody},
		{lengths("0"), chunks, api.ErrIncompleteBody},
		{lengths("1048576"), chunks, api.ErrIncompleteBody},
		{lengths("3"), chunks[:len(chunks)-1], api.ErrIncompleteBody},
		{lengths("3"), "", api.ErrIncompleteBody},
		{lengths("0"), "", api.ErrIncompleteBody},
		{lengths("3"), "abc", api.ErrIncompleteBody}, // three digits, so far
		{lengths("3"), "xyz", api.ErrBadRequest},
		{lengths("3"), chunks + "x", api.ErrBadRequest},
		{lengths("3"), forged, api.ErrSignatureDoesNotMatch},
		{lengths("1048576"), forged, api.ErrSignatureDoesNotMatch},
	} {
		data, e := Body(who, api.Request{Headers: c.l, Body: []byte(c.body)})
		want := ""
		if c.want == api.OK {
			want = "abc"
		}
		if e != c.want || string(data) != want {
			t.Errorf("%q %.50q: %q %d, not %d", c.l, c.body, data, e, c.want)
		}
	}
	// Nothing in chunks is nothing.
	if data, e := Body(who, api.Request{Headers: lengths("0"), Body: []byte(textOf(chain(who)))}); e != api.OK || len(data) != 0 {
		t.Error(data, e)
	}
}

// The header is asked ahead of the body, whatever that is.
func TestBodyWithoutALength(t *testing.T) {
	chunks := textOf(chain(who, "abc"))
	named := func(name string) []api.Header {
		return []api.Header{{Name: name, Value: "3"}}
	}
	for _, l := range [][]api.Header{
		nil, {}, lengths(), lengths("3", "3"), lengths("3", "4"), lengths("3", "x"), lengths("x", "3"), lengths("", "3"), lengths("3", "3", "3"),
		lengths(""), lengths("x"), lengths("03"), lengths("3 "), lengths(" 3"), lengths("+3"), lengths("-3"), lengths("-0"), lengths("3.0"), lengths("0x3"), lengths("3,3"), lengths("00"), lengths("1e1"), lengths("a"),
		lengths("1048577"), lengths("1048580"), lengths("2097152"), lengths("4294967299"), lengths("999999999999999999"), lengths("1000000000000000000"), lengths("18446744073709551619"), lengths(strings.Repeat("3", 1000)),
		named("X-Amz-Decoded-Content-Length"), named("x-amz-decoded-content-length "), named("x-amz-decoded-content-lengt"), named("content-length"), named(""),
	} {
		for _, body := range []string{chunks, "", "xyz", chunks + "x", chunks[1:], chunks[:9], strings.Replace(chunks, "abc", "abd", 1)} {
			if data, e := Body(who, api.Request{Headers: l, Body: []byte(body)}); e != api.ErrInvalidArgument || data != nil {
				t.Errorf("%.200q %.50q: %q %d", l, body, data, e)
			}
		}
	}
}

func TestBodyAtItsBound(t *testing.T) {
	for size, want := range map[int]api.Errno{api.MaxBody - 1: api.OK, api.MaxBody: api.OK, api.MaxBody + 1: api.ErrInvalidArgument} {
		data := []byte(sample(size))
		r := api.Request{Headers: lengths(fmt.Sprint(size)), Body: Encode(who, data, []int{65536, 100000})}
		got, e := Body(who, r)
		if e != want || want == api.OK && !slices.Equal(got, data) || want != api.OK && got != nil {
			t.Error(size, len(got), e)
		}
		// It is Body that has the bound: Decode has none.
		if got, e := Decode(who, r.Body, size); e != api.OK || !slices.Equal(got, data) {
			t.Error(size, len(got), e)
		}
	}
}

// The examples of the chapter.
func TestExamples(t *testing.T) {
	if data, e := Decode(who, nil, 0); e != api.ErrIncompleteBody || data != nil {
		t.Error(data, e)
	}
	b := string(Encode(who, []byte("abc"), nil))
	if !strings.HasPrefix(b, "3;chunk-signature=") || !strings.HasSuffix(b, "\r\n\r\n") {
		t.Errorf("%q", b)
	}
}
