package http

import (
	"math/rand"
	"slices"
	"strconv"
	"strings"
	"testing"
	"time"

	"stowage/api"
)

// begin and chunked are heads without their empty lines.
const (
	begin   = "GET / HTTP/1.1\r\nHost: a\r\n"
	chunked = "PUT /k HTTP/1.1\r\nHost: a\r\nTransfer-Encoding: chunked\r\n"
	last    = "0\r\n\r\n"
)

// a writes a text of n bytes.
func a(n int) string {
	return strings.Repeat("a", n)
}

// parse reads s, and tells an error if the bytes were changed by it.
func parse(t *testing.T, s string) Step {
	t.Helper()
	b := []byte(s)
	step := Parse(b)
	if string(b) != s {
		t.Fatalf("%.200q was changed", s)
	}
	return step
}

// waits asks for HMore of s, all else zero.
func waits(t *testing.T, s string) {
	t.Helper()
	if got := parse(t, s); !sameStep(got, Step{Kind: api.HMore}) {
		t.Errorf("%d bytes %.100q .. %.40q: %.200v", len(s), s, s[max(0, len(s)-40):], got)
	}
}

// refuses asks for that fault of s, whatever stands behind it.
func refuses(t *testing.T, s string, e api.Errno) {
	t.Helper()
	for _, more := range []string{"", "\r", "\n", "\r\n", "\r\n\r\n", "x", begin} {
		if got := parse(t, s+more); !sameStep(got, Step{Kind: api.HBad, Fault: e, Close: true}) {
			t.Errorf("%d bytes %.100q .. %.40q, %q behind: %.200v, not %d", len(s), s, s[max(0, len(s)-40):], more, got, e)
		}
	}
}

// takes asks that s is a whole request, just its bytes, whatever stands behind it, and tells it.
func takes(t *testing.T, s string) Step {
	t.Helper()
	first := parse(t, s)
	if first.Kind != api.HDone || first.Used != len(s) || first.Fault != api.OK {
		t.Fatalf("%d bytes %.100q .. %.40q: %.200v", len(s), s, s[max(0, len(s)-40):], first)
	}
	for _, more := range []string{"\r", "\n", "\r\n", "\x00", "garbage\r\n\r\n", " a: b\r\n", last, begin, s} {
		if got := parse(t, s+more); !sameStep(got, first) {
			t.Errorf("%.200q, %.100q behind: %.200v", s, more, got)
		}
	}
	return first
}

// showsAtLast asks for that fault of s as soon as its last byte is there, and not ahead of it.
func showsAtLast(t *testing.T, s string, e api.Errno) {
	t.Helper()
	for i := range len(s) {
		waits(t, s[:i])
	}
	refuses(t, s, e)
}

func headers(l ...string) []api.Header {
	var told []api.Header
	for i := 0; i < len(l); i += 2 {
		told = append(told, api.Header{Name: l[i], Value: l[i+1]})
	}
	return told
}

// samples are whole requests, with all that may stand in one.
func samples() []string {
	return []string{
		begin + "\r\n",
		"OPTIONS * HTTP/1.1\r\nhost:\r\n\r\n",
		"DELETE /a/b?c=d&e HTTP/1.1\r\nX-Y:\t v  w \t\r\nHOST: a:80\r\nx-y:\r\n\r\n",
		"PUT /a%20b HTTP/1.1\r\nhost: a\r\nContent-Length: 0\r\nExpect: 100-continue\r\n\r\n",
		"PUT / HTTP/1.1\r\nhost: a\r\nContent-Length: 7\r\nExpect: 100-Continue\r\n\r\n\r\n\x00a\xff\r\n",
		"POST /x HTTP/1.1\r\nhost: a\r\nConnection: keep-alive ,\tCLOSE\r\nContent-Length: 3\r\n\r\nabc",
		chunked + "\r\n" + last,
		chunked + "Connection: x\r\nconnection: close\r\n\r\n" + last,
		chunked + "expect: 100-continue\r\n\r\n3;x=y\r\nabc\r\n0A\r\n\r\n01234\r\n\x80\r\n00000001;\r\n\r\r\n0;\t=\r\nT: v\r\nt:\r\n\r\n",
	}
}

// 16.1

func TestExamples(t *testing.T) {
	if got := takes(t, "GET / HTTP/1.1\r\nHost: a\r\n\r\n"); got.Used != 27 {
		t.Error(got)
	}
	refuses(t, "GET / HTTP/1.0\r\n", api.ErrHTTPVersionNotSupported)
	refuses(t, "GET x HTTP/1.1\r\n", api.ErrInvalidURI)
	showsAtLast(t, "GET / HTTP/1.1\r\n a: b\r\n", api.ErrBadRequest)
	waits(t, "POST / HTTP/1.1\r\nHost: a\r\nContent-Length: 3\r\n\r\nab")
}

func TestWholeRequests(t *testing.T) {
	wants := []Step{
		{Req: api.Request{Method: "GET", Target: "/", Headers: headers("host", "a")}},
		{Req: api.Request{Method: "OPTIONS", Target: "*", Headers: headers("host", "")}},
		{Req: api.Request{Method: "DELETE", Target: "/a/b?c=d&e", Headers: headers("x-y", "v  w", "host", "a:80", "x-y", "")}},
		{Req: api.Request{Method: "PUT", Target: "/a%20b", Headers: headers("host", "a", "content-length", "0", "expect", "100-continue")}},
		{Req: api.Request{Method: "PUT", Target: "/", Headers: headers("host", "a", "content-length", "7", "expect", "100-Continue"), Body: []byte("\r\n\x00a\xff\r\n")}, Continue: true},
		{Req: api.Request{Method: "POST", Target: "/x", Headers: headers("host", "a", "connection", "keep-alive ,\tCLOSE", "content-length", "3"), Body: []byte("abc")}, Close: true},
		{Req: api.Request{Method: "PUT", Target: "/k", Headers: headers("host", "a", "transfer-encoding", "chunked")}},
		{Req: api.Request{Method: "PUT", Target: "/k", Headers: headers("host", "a", "transfer-encoding", "chunked", "connection", "x", "connection", "close")}, Close: true},
		{Req: api.Request{Method: "PUT", Target: "/k", Headers: headers("host", "a", "transfer-encoding", "chunked", "expect", "100-continue"), Body: []byte("abc\r\n01234\r\n\x80\r")}, Continue: true},
	}
	for i, s := range samples() {
		wants[i].Kind, wants[i].Used = api.HDone, len(s)
		if got := takes(t, s); !sameStep(got, wants[i]) {
			t.Errorf("%q: %v, not %v", s, got, wants[i])
		}
		agrees(t, s)
	}
}

func TestBeginnings(t *testing.T) {
	for _, s := range samples() {
		for i := range len(s) {
			waits(t, s[:i])
		}
	}
}

// Each of these shows at its last byte: whatever is wrong farther on is not there yet.
func TestWhenFaultsShow(t *testing.T) {
	for e, l := range map[api.Errno][]string{
		api.ErrBadRequest: {
			"\r\n", "GET\r\n", "GET / HTTP/1.1\n\n\r\n", "\nGET / HTTP/1.1\r\n",
			begin + "a\r\n", begin + "a: b\n\r\n", begin + "a: b\r\r\n", begin + "\r\r\n",
			"GET / HTTP/1.1\r\n\r\n", begin + "host: a\r\n\r\n",
			begin + "transfer-encoding: chunked\r\ncontent-length: 1\r\n\r\n",
			chunked + "transfer-encoding: chunked\r\n\r\n", begin + "content-length: 1\r\ncontent-length: 1\r\n\r\n", begin + "content-length: x\r\n\r\n",
			chunked + "\r\n\r\n", chunked + "\r\ng\r\n", chunked + "\r\n1\r\nab", chunked + "\r\n1\r\na\n", chunked + "\r\n1\r\na\r\r", chunked + "\r\n1\r\na\rx",
			chunked + "\r\n1\r\na\r\n\r\n", chunked + "\r\n0\r\na\r\n", chunked + "\r\n0\r\na:b\r\n b\r\n",
			chunked + "\r\n1;" + a(256), chunked + "\r\n" + a(258),
		},
		api.ErrHTTPVersionNotSupported: {"GET / HTTP/1.0\r\n", "GET x HTTP/2.0\r\n"},
		api.ErrInvalidURI:              {"GET x HTTP/1.1\r\n", "OPTIONS ** HTTP/1.1\r\n"},
		api.ErrNotImplemented:          {begin + "transfer-encoding: gzip\r\n\r\n"},
		api.ErrEntityTooLarge:          {begin + "content-length: 1048577\r\n\r\n", chunked + "\r\n100001\r\n", chunked + "\r\n1\r\na\r\n100000\r\n"},
		api.ErrExpectationFailed:       {begin + "expect: x\r\n\r\n"},
		api.ErrRequestHeaderSectionTooLarge: {
			begin + strings.Repeat("a:\r\n", 99) + "a\r\n", chunked + strings.Repeat("a:\r\n", 98) + "\r\n0\r\na\r\n",
		},
		api.ErrRequestURITooLong: {a(8194)},
	} {
		for _, s := range l {
			showsAtLast(t, s, e)
		}
	}
}

// What stands farther on does not tell ahead of what is wrong first.
func TestTheFirstFaultTells(t *testing.T) {
	faults := []struct {
		s string
		e api.Errno
	}{
		{"GET x HTTP/1.1\r\n", api.ErrInvalidURI},
		{begin + "a b\r\n", api.ErrBadRequest},
		{begin + "expect: x\r\n\r\n", api.ErrExpectationFailed},
		{chunked + "\r\n100001\r\n", api.ErrEntityTooLarge},
		{chunked + "\r\n1\r\nab", api.ErrBadRequest},
		{chunked + "\r\n0\r\n" + strings.Repeat("a:\r\n", 99), api.ErrRequestHeaderSectionTooLarge},
	}
	for _, one := range faults {
		for _, two := range faults {
			refuses(t, one.s+two.s, one.e)
		}
		for _, more := range []string{a(70000), a(9000) + "\r\n", strings.Repeat("a:\r\n", 200), "\x00", "HTTP/1.0\r\n\r\n"} {
			refuses(t, one.s+more, one.e)
		}
	}
}

// 16.2, 1

func TestMethods(t *testing.T) {
	for _, s := range []string{"G", "get", "M-SEARCH", a(16), "!#$%&'*+-.^_`|~1", strings.Repeat("*", 16)} {
		if got := takes(t, s+" / HTTP/1.1\r\nhost:a\r\n\r\n"); got.Req.Method != s {
			t.Error(got)
		}
	}
	for _, s := range []string{"", a(17), a(100), "G(T", "G:T", "G\tT", "\u00e9", "G\x00", "G\x7f", "G/", "\"G\"", " GET", "G,"} {
		refuses(t, s+" / HTTP/1.1\r\n", api.ErrBadRequest)
	}
	for c := range 256 {
		agrees(t, "G"+string([]byte{byte(c)})+" / HTTP/1.1\r\nhost:a\r\n\r\n")
	}
}

func TestTargets(t *testing.T) {
	for _, s := range []string{"/", "*", "//", "/*", "/a?b#c", "/!~", "/%", "/HTTP/1.1"} {
		if got := takes(t, "GET "+s+" HTTP/1.1\r\nhost:a\r\n\r\n"); got.Req.Target != s {
			t.Error(got)
		}
	}
	for _, s := range []string{"a", "http://a/", "**", "*/", "?", "!", "~", "\\"} {
		refuses(t, "GET "+s+" HTTP/1.1\r\n", api.ErrInvalidURI)
	}
	for _, s := range []string{"", " ", "/ ", " /", "/a b", "/\t", "/\x00", "/\x20", "/\x1f", "/\x7f", "/\x80", "/\u00e9", "/\xff", "*\n"} {
		refuses(t, "GET "+s+" HTTP/1.1\r\n", api.ErrBadRequest)
	}
	for c := range 256 {
		for _, s := range []string{"/" + string([]byte{byte(c)}), string([]byte{byte(c)})} {
			agrees(t, "GET "+s+" HTTP/1.1\r\nhost:a\r\n\r\n")
		}
	}
}

func TestVersions(t *testing.T) {
	for _, s := range []string{"HTTP/1.0", "HTTP/0.9", "HTTP/2.0", "HTTP/1.2", "HTTP/0.1", "HTTP/9.9", "HTTP/2.1"} {
		refuses(t, "GET / "+s+"\r\n", api.ErrHTTPVersionNotSupported)
		refuses(t, "GET x "+s+"\r\n", api.ErrHTTPVersionNotSupported)
		refuses(t, a(17)+" x "+s+"\r\n", api.ErrBadRequest)
	}
	for _, s := range []string{"", " ", "HTTP/1.1 ", " HTTP/1.1", "http/1.1", "HTTP/1", "HTTP/1.", "HTTP/.1", "HTTP/11", "HTTP/1.10", "HTTP/01.1", "HTTP/1,1", "HTTP/a.1", "HTTP/1.a", "HTTP/1.:", "HTTP//.1", "HTTP1.1", "XTTP/1.1", "HTTPS/1.1", "HTTP/1.1\t", "HTTP/1.1 x"} {
		refuses(t, "GET / "+s+"\r\n", api.ErrBadRequest)
		refuses(t, "GET x "+s+"\r\n", api.ErrBadRequest)
	}
	for _, s := range []string{"GET", "GET ", "GET /", "GET / ", "GET /  HTTP/1.1", "GET  / HTTP/1.1", "GET/ HTTP/1.1", "GET /HTTP/1.1", "GET\t/ HTTP/1.1", "GET /\tHTTP/1.1", ""} {
		refuses(t, s+"\r\n", api.ErrBadRequest)
	}
}

func TestBoundOfTheRequestLine(t *testing.T) {
	line := func(n int) string { return "GET /" + a(n-14) + " HTTP/1.1" }
	for n := 8180; n <= 8192; n++ {
		if got := takes(t, line(n)+"\r\nhost:a\r\n\r\n"); len(got.Req.Target) != n-13 {
			t.Error(n, len(got.Req.Target))
		}
		refuses(t, a(n)+"\r\n", api.ErrBadRequest)
	}
	for _, n := range []int{8193, 8194, 8195, 10000, 70000} {
		refuses(t, line(n)+"\r\n", api.ErrRequestURITooLong)
		refuses(t, a(n)+"\r\n", api.ErrRequestURITooLong)
		// The bound is asked ahead of all else.
		refuses(t, "\n"+a(n-1)+"\r\n", api.ErrRequestURITooLong)
		refuses(t, a(n-1)+"\r\r\n", api.ErrRequestURITooLong)
		refuses(t, "x HTTP/1.0"+a(n-10)+"\r\n", api.ErrRequestURITooLong)
	}
	for _, end := range []string{"a", "\r", "\n", "\n\r", "\r\r"} {
		waits(t, a(8193-len(end))+end)
		refuses(t, a(8194-len(end))+end, api.ErrRequestURITooLong)
		refuses(t, a(70000)+end, api.ErrRequestURITooLong)
	}
	waits(t, a(8192)+"\r")
	refuses(t, a(8192)+"\r\n", api.ErrBadRequest)
	refuses(t, a(8191)+"\r\r\n", api.ErrBadRequest)
	refuses(t, a(8192)+"\r\r\n", api.ErrRequestURITooLong)
}

// A 0D or 0A that ends no line.
func TestStrayEnds(t *testing.T) {
	for _, lines := range [][]string{
		{"GET / HTTP/1.1", "host: a", "x: y", ""},
		{"PUT / HTTP/1.1", "host: a", "transfer-encoding: chunked", "", "1;x=y", "a", "0", "t: u", ""},
	} {
		data := slices.Index(lines, "a")
		for i, line := range lines {
			if i == data {
				continue
			}
			for at := range len(line) + 1 {
				for _, stray := range []string{"\r", "\n", "\n\r", "\r\r", "\n\n"} {
					all := slices.Clone(lines)
					all[i] = line[:at] + stray + line[at:]
					s := strings.Join(all[:i+1], "\r\n")
					waits(t, s)
					showsAtLast(t, s+"\r\n", api.ErrBadRequest)
				}
			}
		}
	}
	// Such a line is judged at its end, and no line ends at less.
	waits(t, "GET / HTTP/1.1\n\n")
	waits(t, "GET / HTTP/1.1\r\r")
	waits(t, begin+"\n\r")
	waits(t, begin+"a b\nc d\ne f\n")
}

// 16.2, 2

func TestHeaderLines(t *testing.T) {
	for line, want := range map[string]api.Header{
		"a:":                {Name: "a"},
		"a: ":               {Name: "a"},
		"a: \t \t":          {Name: "a"},
		"a:b":               {Name: "a", Value: "b"},
		"A-B: C D":          {Name: "a-b", Value: "C D"},
		"a:\t b \t c \t":    {Name: "a", Value: "b \t c"},
		"a::":               {Name: "a", Value: ":"},
		"a:b:c: d":          {Name: "a", Value: "b:c: d"},
		"!#$%&'*+-.^_`|~:x": {Name: "!#$%&'*+-.^_`|~", Value: "x"},
		"AZaz09:x":          {Name: "azaz09", Value: "x"},
		"a: \u00e9\xff\x80": {Name: "a", Value: "\u00e9\xff\x80"},
		"a: ~ \u00c9 {\"}":  {Name: "a", Value: "~ \u00c9 {\"}"},
		"a:\u00a0b\u3000":   {Name: "a", Value: "\u00a0b\u3000"},
	} {
		got := takes(t, begin+line+"\r\n\r\n")
		if !slices.Equal(got.Req.Headers, []api.Header{{Name: "host", Value: "a"}, want}) {
			t.Errorf("%q: %v", line, got)
		}
	}
	for _, line := range []string{":", ": b", "a", "a b", " a: b", "\ta: b", " ", "\t", "a : b", "a\t: b", "a b: c", "\u00e9: b", "a\x00: b", "(a): b", "a=b", "a: \x00", "a: \x01", "a: b\x08c", "a: \x0b", "a: \x1f", "a: \x7f", "a:\x7fb", "\"a\": b", "a,b: c", "a;b: c", "a/b: c"} {
		for _, ahead := range []string{begin, "GET / HTTP/1.1\r\n", begin + "c: d\r\n"} {
			showsAtLast(t, ahead+line+"\r\n", api.ErrBadRequest)
		}
	}
	for c := range 256 {
		b := string([]byte{byte(c)})
		for _, s := range []string{b + ":x", "a" + b + ":x", b, "x:" + b, "x: a" + b + "b", "x:" + b + "b"} {
			agrees(t, begin+s+"\r\n\r\n")
			agrees(t, chunked+"\r\n0\r\n"+s+"\r\n\r\n")
		}
	}
}

func TestCountOfHeaders(t *testing.T) {
	for _, n := range []int{98, 99} {
		got := takes(t, begin+strings.Repeat("a:\r\n", n)+"\r\n")
		if len(got.Req.Headers) != n+1 {
			t.Error(n, len(got.Req.Headers))
		}
	}
	full := begin + strings.Repeat("a:\r\n", 99)
	// The count is asked ahead of the line's own form, and of what the headers say together, but when the line's end is there.
	for _, line := range []string{"a:", "host: b", " ", " a", "a", "\n", "\r", "a: \x00", a(1000)} {
		waits(t, full+line)
		waits(t, full+line+"\r")
		refuses(t, full+line+"\r\n", api.ErrRequestHeaderSectionTooLarge)
	}
	refuses(t, "GET / HTTP/1.1\r\n"+strings.Repeat("a:\r\n", 100)+"\r\n", api.ErrBadRequest)
	refuses(t, "GET / HTTP/1.1\r\n"+strings.Repeat("a:\r\n", 101), api.ErrRequestHeaderSectionTooLarge)
	refuses(t, full[:len(full)-4]+"a\r\n", api.ErrBadRequest)
}

// padded writes s, a header line that makes it n bytes in all with the line's end, and that end.
func padded(s string, n int) string {
	return s + "p:" + a(n-len(s)-4) + "\r\n"
}

func TestBoundOfTheHead(t *testing.T) {
	for _, n := range []int{65530, 65535, 65536} {
		s := padded(begin, n-2) + "\r\n"
		if got := takes(t, s); got.Used != n || len(got.Req.Headers) != 2 {
			t.Error(n, got.Used)
		}
	}
	refuses(t, padded(begin, 65535)+"\r\n", api.ErrRequestHeaderSectionTooLarge)
	refuses(t, padded(begin, 65536)+"\r\n", api.ErrRequestHeaderSectionTooLarge)
	waits(t, padded(begin, 65535))
	waits(t, padded(begin, 65535)+"\r")
	waits(t, padded(begin, 65536))
	refuses(t, padded(begin, 65536)+"\r", api.ErrRequestHeaderSectionTooLarge)
	refuses(t, padded(begin, 65536)+"a", api.ErrRequestHeaderSectionTooLarge)
	for _, n := range []int{65537, 65538, 70000} {
		refuses(t, padded(begin, n), api.ErrRequestHeaderSectionTooLarge)
		// The bound is asked ahead of the line's own form.
		for _, line := range []string{"p", " p", "p: \x00", "p\n", "p\r"} {
			s := begin + line
			refuses(t, s+a(n-len(s)-2)+"\r\n", api.ErrRequestHeaderSectionTooLarge)
			refuses(t, begin+a(n-len(s)-2)+line+"\r\n", api.ErrRequestHeaderSectionTooLarge)
		}
	}
	refuses(t, begin+a(65536-len(begin)-2)+"\r\n", api.ErrBadRequest)
	// Without the line's end.
	for _, end := range []string{"a", "\r", "\n", "\x00", "\n\r", ":"} {
		waits(t, begin+a(65536-len(begin)-len(end))+end)
		refuses(t, begin+a(65537-len(begin)-len(end))+end, api.ErrRequestHeaderSectionTooLarge)
		refuses(t, begin+a(100000)+end, api.ErrRequestHeaderSectionTooLarge)
	}
}

// The bound goes over all lines together, the request line too.
func TestBoundOfManyLines(t *testing.T) {
	s := "GET /" + a(8178) + " HTTP/1.1\r\nhost: a\r\n"
	for range 6 {
		s += "p: " + a(8187) + "\r\n"
	}
	for n := 65530; n <= 65540; n++ {
		head := padded(s, n-2) + "\r\n"
		if len(head) != n {
			t.Fatal(len(head))
		}
		if n <= 65536 {
			takes(t, head)
		} else {
			refuses(t, head, api.ErrRequestHeaderSectionTooLarge)
		}
		agrees(t, head)
	}
	// What was read is not counted from the line alone, nor the body as part of the head.
	body := begin + "content-length: 100000\r\n\r\n" + a(100000)
	takes(t, body)
	takes(t, chunked+"\r\n186A0\r\n"+a(100000)+"\r\n0\r\na: b\r\n\r\n")
	takes(t, chunked+"\r\n"+strings.Repeat("1\r\na\r\n", 20000)+"0\r\na: b\r\n\r\n")
}

// 16.2, 3

func TestHeadersTogether(t *testing.T) {
	const get = "GET / HTTP/1.1\r\n"
	for _, c := range []struct {
		lines string
		e     api.Errno
	}{
		{"", api.ErrBadRequest},
		{"hos: a|", api.ErrBadRequest},
		{"host: a|host: a|", api.ErrBadRequest},
		{"host: a|HOST: b|", api.ErrBadRequest},
		{"host: a|host:|", api.ErrBadRequest},
		{"host: a|transfer-encoding: chunked|content-length: 0|", api.ErrBadRequest},
		{"host: a|content-length: 0|transfer-encoding: chunked|", api.ErrBadRequest},
		{"host: a|content-length: x|transfer-encoding: gzip|", api.ErrBadRequest},
		{"host: a|content-length: 1048577|transfer-encoding: gzip|", api.ErrBadRequest},
		{"host: a|transfer-encoding: chunked|transfer-encoding: chunked|", api.ErrBadRequest},
		{"host: a|transfer-encoding: gzip|transfer-encoding: chunked|", api.ErrBadRequest},
		{"host: a|transfer-encoding: gzip|", api.ErrNotImplemented},
		{"host: a|transfer-encoding: identity|", api.ErrNotImplemented},
		{"host: a|transfer-encoding:|", api.ErrNotImplemented},
		{"host: a|transfer-encoding: gzip, chunked|", api.ErrNotImplemented},
		{"host: a|transfer-encoding: chunked,|", api.ErrNotImplemented},
		{"host: a|transfer-encoding: chunked;x|", api.ErrNotImplemented},
		{"host: a|content-length: 1|content-length: 1|", api.ErrBadRequest},
		{"host: a|content-length: 0|content-length: 1048577|", api.ErrBadRequest},
		{"host: a|content-length:|", api.ErrBadRequest},
		{"host: a|content-length: 00|", api.ErrBadRequest},
		{"host: a|content-length: 01|", api.ErrBadRequest},
		{"host: a|content-length: -1|", api.ErrBadRequest},
		{"host: a|content-length: +1|", api.ErrBadRequest},
		{"host: a|content-length: 1,1|", api.ErrBadRequest},
		{"host: a|content-length: 1 1|", api.ErrBadRequest},
		{"host: a|content-length: 0x1|", api.ErrBadRequest},
		{"host: a|content-length: 1.0|", api.ErrBadRequest},
		{"host: a|content-length: \u0661|", api.ErrBadRequest},
		{"host: a|content-length: " + strings.Repeat("9", 19) + "|", api.ErrBadRequest},
		{"host: a|content-length: 18446744073709551616|", api.ErrBadRequest},
		{"host: a|content-length: " + strings.Repeat("9", 18) + "|", api.ErrEntityTooLarge},
		{"host: a|content-length: 1048577|", api.ErrEntityTooLarge},
		{"host: a|expect:|", api.ErrExpectationFailed},
		{"host: a|expect: 100|", api.ErrExpectationFailed},
		{"host: a|expect: 100-continue, x|", api.ErrExpectationFailed},
		{"host: a|expect: x|expect: 100-continue|", api.ErrExpectationFailed},
		{"host: a|transfer-encoding: chunked|expect: 200-ok|", api.ErrExpectationFailed},
		{"expect: x|", api.ErrBadRequest},
		{"transfer-encoding: gzip|", api.ErrBadRequest},
		{"content-length: 1048577|", api.ErrBadRequest},
		{"host: a|expect: x|content-length: 1048577|", api.ErrEntityTooLarge},
		{"host: a|expect: x|content-length: x|", api.ErrBadRequest},
		{"host: a|expect: x|transfer-encoding: gzip|", api.ErrNotImplemented},
	} {
		// None of it tells ahead of the empty line, at which it does.
		showsAtLast(t, get+strings.ReplaceAll(c.lines, "|", "\r\n")+"\r\n", c.e)
		refuses(t, get+strings.ReplaceAll(c.lines, "|", "\r\n")+"a b\r\n", api.ErrBadRequest)
		refuses(t, get+strings.ReplaceAll(c.lines, "|", "\r\n")+strings.Repeat("a:\r\n", 101), api.ErrRequestHeaderSectionTooLarge)
	}
	for _, lines := range []string{"host: a|expect: 100-continue|expect: x|", "host: a|EXPECT: 100-CONTINUE|", "host: a|Content-Length: 0|", "host: a|expected: x|", "x-host: b|host: a|", "host: a b c|", "host: a|transfer-encodin: gzip|"} {
		takes(t, get+strings.ReplaceAll(lines, "|", "\r\n")+"\r\n")
	}
	for _, value := range []string{"chunked", "Chunked", "CHUNKED", "\tchunKed "} {
		takes(t, begin+"Transfer-Encoding:"+value+"\r\n\r\n"+last)
	}
}

// Each list of few headers that matter, against the model.
func TestListsOfHeaders(t *testing.T) {
	lines := []string{"host: a", "host:", "transfer-encoding: chunked", "Transfer-Encoding: gzip", "content-length: 1", "content-length: 1048577", "content-length: x", "expect: 100-continue", "expect: x", "connection: close", "connection: x,y", "x"}
	told := map[api.Errno]int{}
	var grow func(s string, n int)
	grow = func(s string, n int) {
		for _, behind := range []string{"", "1\r\nb\r\n" + last} {
			told[agrees(t, s+"\r\n"+behind).Fault]++
		}
		for _, line := range lines {
			if n > 0 {
				grow(s+line+"\r\n", n-1)
			}
		}
	}
	grow("GET / HTTP/1.1\r\n", 4)
	for _, e := range []api.Errno{api.OK, api.ErrBadRequest, api.ErrNotImplemented, api.ErrEntityTooLarge, api.ErrExpectationFailed} {
		if told[e] == 0 {
			t.Error("never told: ", e)
		}
	}
}

// 16.2, 4

func TestBodies(t *testing.T) {
	for _, n := range []int{0, 1, 2, 9, 10, 100, 8192, 65536, 65537, 1048575, 1048576} {
		head := begin + "content-length: " + strconv.Itoa(n) + "\r\n\r\n"
		body := a(n)
		if got := takes(t, head+body); string(got.Req.Body) != body {
			t.Error(n, len(got.Req.Body))
		}
		if n > 0 {
			waits(t, head)
			waits(t, head+body[1:])
		}
	}
	for _, n := range []int{1048577, 1048578, 2000000, 1 << 31, 1 << 32, 1 << 53} {
		showsAtLast(t, begin+"content-length: "+strconv.Itoa(n)+"\r\n\r\n", api.ErrEntityTooLarge)
	}
	// Without either header there is none, whatever the method.
	if got := takes(t, "POST / HTTP/1.1\r\nhost: a\r\n\r\n"); len(got.Req.Body) != 0 {
		t.Error(got)
	}
	// With one there is, whatever the method.
	if got := takes(t, "GET / HTTP/1.1\r\nhost: a\r\ncontent-length: 2\r\n\r\nab"); string(got.Req.Body) != "ab" {
		t.Error(got)
	}
}

func TestChunks(t *testing.T) {
	for s, want := range map[string]string{
		last:                                "",
		"00000000\r\n\r\n":                  "",
		"0;\r\n\r\n":                        "",
		"1\r\na\r\n" + last:                 "a",
		"01\r\na\r\n" + last:                "a",
		"00000001\r\na\r\n" + last:          "a",
		"1;\r\na\r\n" + last:                "a",
		"1;;\r\na\r\n" + last:               "a",
		"1; x=\"y\" \r\na\r\n" + last:       "a",
		"1;\t\u00e9\xff\r\na\r\n" + last:    "a",
		"2\r\n\r\n\r\n" + last:              "\r\n",
		"5\r\n0\r\n\r\n\r\n" + last:         "0\r\n\r\n",
		"a\r\n0123456789\r\n" + last:        "0123456789",
		"A\r\n0123456789\r\n" + last:        "0123456789",
		"1\r\na\r\n2\r\nbc\r\n" + last:      "abc",
		"1\r\n\x00\r\n1\r\n\xff\r\n" + last: "\x00\xff",
		"1\r\na\r\n0\r\na: b\r\n\r\n":       "a",
		"1\r\na\r\n0\r\na:\r\nhost: b\r\ncontent-length: x\r\ntransfer-encoding: y\r\nexpect: z\r\nconnection: close\r\n\r\n": "a",
		"10\r\n" + a(16) + "\r\n" + last:          a(16),
		"fF\r\n" + a(255) + "\r\n" + last:         a(255),
		"10fF\r\n" + a(4351) + "\r\n" + last:      a(4351),
		"bCdE\r\n" + a(48350) + "\r\n" + last:     a(48350),
		"100000\r\n" + a(1048576) + "\r\n" + last: a(1048576),
	} {
		got := takes(t, chunked+"\r\n"+s)
		if string(got.Req.Body) != want || !slices.Equal(got.Req.Headers, headers("host", "a", "transfer-encoding", "chunked")) || got.Close || got.Continue {
			t.Errorf("%.100q: %.200v", s, got)
		}
		if len(s) < 1000 {
			for i := range len(s) {
				waits(t, chunked+"\r\n"+s[:i])
			}
		}
	}
}

func TestWrongChunkLines(t *testing.T) {
	for _, line := range []string{"", " ", ";", ";x", "g", "G", "x", "0x1", "-1", "+1", "1 ", " 1", "1 ;", "1\t", "1,", "1_0", "1:", "1=2", "@", "`", "/", "\x00", "1\x00", "\u00e9", "\u0661", "1;\x00", "1;\x7f", "1;a\x1fb", "000000000", "000000001", "123456789", "fffffffff", "1" + strings.Repeat("0", 16), a(16), a(255), a(256)} {
		for _, ahead := range []string{"", "1\r\na\r\n", "1;x\r\n\n\r\n"} {
			showsAtLast(t, chunked+"\r\n"+ahead+line+"\r\n", api.ErrBadRequest)
		}
	}
	for c := range 256 {
		b := string([]byte{byte(c)})
		for _, s := range []string{b, "1" + b, b + "1", "1;" + b, "1;a" + b + "b"} {
			agrees(t, chunked+"\r\n"+s+"\r\n"+a(400)+"\r\n"+last)
			agrees(t, chunked+"\r\n"+s+"\r\na\r\n"+last)
		}
	}
}

func TestBoundsOfChunkLines(t *testing.T) {
	for _, ahead := range []string{"", "1\r\na\r\n"} {
		s := chunked + "\r\n" + ahead
		for _, n := range []int{2, 100, 255, 256} {
			takes(t, s+"1;"+a(n-2)+"\r\nb\r\n"+last)
			takes(t, s+"0;"+a(n-2)+"\r\n\r\n")
		}
		for _, n := range []int{257, 258, 259, 1000, 70000} {
			refuses(t, s+"1;"+a(n-2)+"\r\nb\r\n"+last, api.ErrBadRequest)
			refuses(t, s+"0;"+a(n-2)+"\r\n", api.ErrBadRequest)
			refuses(t, s+"ffffff;"+a(n-7)+"\r\n", api.ErrBadRequest)
		}
		for _, end := range []string{"a", "\r", "\n", "\x00"} {
			waits(t, s+"1;"+a(255-len(end))+end)
			refuses(t, s+"1;"+a(256-len(end))+end, api.ErrBadRequest)
			refuses(t, s+"1;"+a(70000)+end, api.ErrBadRequest)
			waits(t, s+strings.Repeat("g", 256)+end)
			refuses(t, s+strings.Repeat("g", 257)+end, api.ErrBadRequest)
		}
	}
	// Eight digits may be told, nine may not.
	takes(t, chunked+"\r\n00000010;x\r\n"+a(16)+"\r\n"+last)
	refuses(t, chunked+"\r\n000000010;x\r\n", api.ErrBadRequest)
	showsAtLast(t, chunked+"\r\nffffffff\r\n", api.ErrEntityTooLarge)
	showsAtLast(t, chunked+"\r\n80000000;\r\n", api.ErrEntityTooLarge)
	showsAtLast(t, chunked+"\r\nfffffffff\r\n", api.ErrBadRequest)
}

func TestEndsOfChunks(t *testing.T) {
	for _, s := range []string{"1\r\na", "3\r\n\r\n\r", "1\r\na\r\n2\r\n\r\n"} {
		for c := range 256 {
			b := string([]byte{byte(c)})
			if b == "\r" {
				waits(t, chunked+"\r\n"+s+b)
			} else {
				showsAtLast(t, chunked+"\r\n"+s+b, api.ErrBadRequest)
			}
			if b == "\n" {
				waits(t, chunked+"\r\n"+s+"\r"+b)
			} else {
				showsAtLast(t, chunked+"\r\n"+s+"\r"+b, api.ErrBadRequest)
			}
		}
	}
}

func TestBoundOfChunks(t *testing.T) {
	full := chunked + "\r\n1\r\na\r\nFFFFE\r\n" + a(1048574) + "\r\n"
	if got := takes(t, full+"1\r\nb\r\n"+last); len(got.Req.Body) != 1048576 {
		t.Error(len(got.Req.Body))
	}
	takes(t, full+last)
	waits(t, full+"2\r")
	refuses(t, full+"2\r\n", api.ErrEntityTooLarge)
	refuses(t, full+"1\r\nb\r\n1\r\n", api.ErrEntityTooLarge)
	refuses(t, full+"1\r\nb\r\n00000001;x\r\n", api.ErrEntityTooLarge)
	refuses(t, full+"1\r\nb\r\nx\r\n", api.ErrBadRequest)
	refuses(t, full+"100000\r\n", api.ErrEntityTooLarge)
	refuses(t, full+"ffffffff\r\n", api.ErrEntityTooLarge)
	waits(t, chunked+"\r\n100000\r\n")
	waits(t, chunked+"\r\n100000\r\n"+a(1048576))
	showsAtLast(t, chunked+"\r\n100001\r\n", api.ErrEntityTooLarge)
}

func TestTrailers(t *testing.T) {
	for _, n := range []int{0, 1, 97, 98} {
		s := chunked + "\r\n1\r\nb\r\n0\r\n" + strings.Repeat("a:\r\n", n)
		if got := takes(t, s+"\r\n"); len(got.Req.Headers) != 2 || got.Used != len(s)+2 {
			t.Error(n, got)
		}
	}
	// Lines count on from those of the head.
	for ahead := range 99 {
		s := chunked + strings.Repeat("b:\r\n", ahead) + "\r\n1\r\nb\r\n0\r\n" + strings.Repeat("a:\r\n", 98-ahead)
		takes(t, s+"\r\n")
		waits(t, s)
		waits(t, s+"a")
		for _, line := range []string{"a:", " ", "a", "\n", "a: \x00"} {
			refuses(t, s+line+"\r\n", api.ErrRequestHeaderSectionTooLarge)
		}
	}
	// Bytes count on from those of the head with its empty line; chunks do not count, nor does the line of the last one.
	for _, chunks := range []string{"0\r\n", "00000000;abc\r\n", "1\r\na\r\n0\r\n", "11170\r\n" + a(70000) + "\r\n3;abc\r\nabc\r\n0\r\n"} {
		for _, ahead := range []string{chunked + "\r\n", padded(chunked, 1000) + "\r\n", padded(chunked, 65500) + "\r\n", padded(chunked, 65530) + "\r\n"} {
			s, left := ahead+chunks, 65536-len(ahead)
			trailer := func(n int) string { return padded("", n) }
			takes(t, s+"\r\n")
			if left >= 6 {
				takes(t, s+trailer(left-2)+"\r\n")
				refuses(t, s+trailer(left-1)+"\r\n", api.ErrRequestHeaderSectionTooLarge)
				waits(t, s+trailer(left-1)+"\r")
				waits(t, s+trailer(left))
				refuses(t, s+trailer(left)+"\r", api.ErrRequestHeaderSectionTooLarge)
				refuses(t, s+trailer(left+1), api.ErrRequestHeaderSectionTooLarge)
			}
			waits(t, s+a(left))
			waits(t, s+a(left-1)+"\r")
			refuses(t, s+a(left-2)+"\r\n", api.ErrBadRequest)
			refuses(t, s+a(left-1)+"\r\n", api.ErrRequestHeaderSectionTooLarge)
			refuses(t, s+a(left)+"\r", api.ErrRequestHeaderSectionTooLarge)
			refuses(t, s+a(left+1), api.ErrRequestHeaderSectionTooLarge)
		}
	}
	takes(t, padded(chunked, 65532)+"\r\n0\r\n\r\n")
	for _, n := range []int{65533, 65534} {
		s := padded(chunked, n) + "\r\n0\r\n"
		waits(t, s)
		refuses(t, s+"\r\n", api.ErrRequestHeaderSectionTooLarge)
	}
}

// 16.3

func TestClose(t *testing.T) {
	for value, want := range map[string]bool{
		"close": true, "Close": true, "CLOSE": true, " close\t": true, "close,": true, ",close": true, "x, close": true, "close, x": true, "x,\tcLoSe ,y": true, ",,close,,": true, "keep-alive,close": true,
		"": false, "closed": false, "x close": false, "close x": false, "close;x": false, "clo se": false, "keep-alive": false, "x-close": false, "\"close\"": false, ",": false, "c,lose": false, "\u00a0close": false, "clo\u017fe": false,
	} {
		if got := takes(t, begin+"Connection:"+value+"\r\n\r\n"); got.Close != want {
			t.Errorf("%q: %v", value, got)
		}
		if got := takes(t, begin+"Connection: x\r\nconnection:"+value+"\r\nconnection: y\r\n\r\n"); got.Close != want {
			t.Errorf("second %q: %v", value, got)
		}
	}
	if got := takes(t, begin+"x-connection: close\r\nclose: close\r\n\r\n"); got.Close {
		t.Error(got)
	}
}

func TestContinue(t *testing.T) {
	const expect = "expect: 100-continue\r\n"
	for s, want := range map[string]bool{
		begin + expect + "\r\n":                                 false,
		begin + expect + "content-length: 0\r\n\r\n":            false,
		begin + expect + "content-length: 1\r\n\r\na":           true,
		begin + "content-length: 1\r\n" + expect + "\r\na":      true,
		begin + "content-length: 1\r\n\r\na":                    false,
		begin + "x-expect: x\r\ncontent-length: 1\r\n\r\na":     false,
		chunked + expect + "\r\n" + last:                        false,
		chunked + expect + "\r\n1\r\na\r\n" + last:              true,
		chunked + expect + "expect: x\r\n\r\n1\r\na\r\n" + last: true,
		chunked + "\r\n1\r\na\r\n" + last:                       false,
		chunked + "\r\n1\r\na\r\n0\r\n" + expect + "\r\n":       false,
	} {
		if got := takes(t, s); got.Continue != want || got.Close {
			t.Errorf("%q: %v", s, got)
		}
	}
}

// 16.5

// atEveryCut asks that s and all its beginnings tell HMore up to some length, and one and the same from there on.
func atEveryCut(t *testing.T, s string) {
	t.Helper()
	final := agrees(t, s)
	told := false
	for i := range len(s) + 1 {
		got := parse(t, s[:i])
		told = told || got.Kind != api.HMore
		if told && !sameStep(got, final) || !told && !sameStep(got, Step{Kind: api.HMore}) {
			t.Fatalf("%.300q, of which %d bytes: %.200v, not %.200v", s, i, got, final)
		}
	}
	if final.Kind == api.HMore {
		return
	}
	for _, more := range []string{"\r\n", "a", s} {
		if got := parse(t, s+more); !sameStep(got, final) {
			t.Fatalf("%.300q, %.100q behind: %.200v, not %.200v", s, more, got, final)
		}
	}
}

func TestChangedBytes(t *testing.T) {
	for _, s := range samples() {
		atEveryCut(t, s)
		for i := range len(s) {
			agrees(t, s[:i]+s[i+1:])
			agrees(t, s[i:])
			for c := range 256 {
				b := string([]byte{byte(c)})
				agrees(t, s[:i]+b+s[i:])
				agrees(t, s[:i]+b+s[i+1:])
			}
			for _, piece := range []string{"\r\n", "\r\n\r\n", "\r", "\n", " ", "0", "x", ":", ";", "\x00"} {
				atEveryCut(t, s[:i]+piece+s[i:])
				atEveryCut(t, s[:i]+piece+s[i+1:])
			}
		}
		for i := range len(s) {
			for j := i + 1; j < len(s); j++ {
				agrees(t, s[:i]+s[j:])
			}
		}
	}
}

// Requests put together of pieces, at all of which something may be wrong.
func TestPiecesPutTogether(t *testing.T) {
	pieces := []string{
		"GET / HTTP/1.1\r\n", "PUT /x HTTP/1.1\r\n", begin, chunked, "\r\n", "\r\n", "host: a\r\n", "content-length: 5\r\n", "transfer-encoding: chunked\r\n", "expect: 100-continue\r\n", "connection: close\r\n",
		"\r", "\n", "abcde", "5\r\n", "abcde\r\n", "0\r\n", last, "a: b\r\n", "A;x\r\n0123456789\r\n", "x", " ", "100000\r\n",
	}
	random := rand.New(rand.NewSource(16))
	told := map[int]int{}
	for range 20000 {
		var s strings.Builder
		s.WriteString([]string{begin, chunked, chunked + "\r\n", ""}[random.Intn(4)])
		for range random.Intn(10) {
			s.WriteString(pieces[random.Intn(len(pieces))])
		}
		atEveryCut(t, s.String())
		told[Parse([]byte(s.String())).Kind]++
	}
	for _, kind := range []int{api.HMore, api.HDone, api.HBad} {
		if told[kind] < 500 {
			t.Error(kind, told[kind])
		}
	}
}

// stream tells all requests of s, and what is left of it.
func stream(s string) (l []api.Request, rest string) {
	for {
		step := Parse([]byte(s))
		if step.Kind != api.HDone {
			return l, s
		}
		l, s = append(l, step.Req), s[step.Used:]
	}
}

func TestStreams(t *testing.T) {
	all := strings.Join(samples(), "")
	l, rest := stream(all + begin)
	if len(l) != len(samples()) || rest != begin {
		t.Fatal(len(l), rest)
	}
	for i, s := range samples() {
		if want := Parse([]byte(s)).Req; !sameRequest(l[i], want) {
			t.Error(l[i], want)
		}
	}
	// However it is cut.
	for _, size := range []int{1, 2, 3, 7, 100, 1000} {
		var got []api.Request
		waiting := ""
		for i := 0; i < len(all); i += size {
			more, rest := stream(waiting + all[i:min(i+size, len(all))])
			got, waiting = append(got, more...), rest
		}
		if !slices.EqualFunc(got, l, sameRequest) || waiting != "" {
			t.Error(size, len(got), waiting)
		}
	}
}

// 16.7

func TestAnyBytes(t *testing.T) {
	const signs = "\r\n\r\n :;/*aG01HTP.\x00\xff"
	random := rand.New(rand.NewSource(7))
	for range 20000 {
		b := make([]byte, random.Intn(60))
		for i := range b {
			b[i] = signs[random.Intn(len(signs))]
		}
		atEveryCut(t, string(b))
		agrees(t, begin+string(b))
		agrees(t, chunked+"\r\n"+string(b))
	}
	agrees(t, "")
	if got := Parse(nil); !sameStep(got, Step{Kind: api.HMore}) {
		t.Error(got)
	}
}

// ends fails the test if f takes far too long.
func ends(t *testing.T, what string, f func()) {
	t.Helper()
	done := make(chan struct{})
	go func() {
		defer close(done)
		f()
	}()
	select {
	case <-done:
	case <-time.After(20 * time.Second):
		t.Fatal(what, "does not end")
	}
}

func TestParseEnds(t *testing.T) {
	for _, ahead := range []string{"", "GET /", begin, begin + "a: ", begin + "\r\n", chunked, chunked + "\r\n", chunked + "\r\n1;", chunked + "\r\n100000\r\n", chunked + "\r\n0\r\n", chunked + "\r\n0\r\na: "} {
		for _, piece := range []string{"a", "\r", "\n", "\r\n", "\n\r", " ", ":", "a:\r\n", "a:b\r\n", "0\r\n", "1\r\na\r\n", "1\r\n", "\x00", "\xff", ";", "0", "f", "GET / HTTP/1.1\r\n", ",", "close,"} {
			s := ahead + strings.Repeat(piece, 2000000/len(piece))
			ends(t, ahead+piece, func() {
				if got := Parse([]byte(s)); got.Kind < api.HMore || got.Kind > api.HBad {
					t.Errorf("%q %q: %v", ahead, piece, got.Kind)
				}
			})
		}
	}
	// As many chunks as there may be.
	many := chunked + "\r\n" + strings.Repeat("1\r\na\r\n", 1048576)
	ends(t, "many chunks", func() {
		if got := Parse([]byte(many + last)); got.Kind != api.HDone || string(got.Req.Body) != a(1048576) {
			t.Error(got.Kind, len(got.Req.Body))
		}
		if got := Parse([]byte(many + "1\r\na\r\n")); got.Fault != api.ErrEntityTooLarge {
			t.Error(got.Kind, got.Fault)
		}
	})
}

// spoil changes a list and its spare room.
func spoil[T any](l []T, with T) {
	l = l[:cap(l)]
	for i := range l {
		l[i] = with
	}
}

func TestParseIsNewMemory(t *testing.T) {
	for _, s := range samples() {
		want := model(s)
		b := append(make([]byte, 0, len(s)+100), s...)
		one, two := Parse(b), Parse(b)
		spoil(one.Req.Body, 'x')
		spoil(one.Req.Headers, api.Header{Name: "spoilt", Value: "spoilt"})
		if string(b) != s || string(b[:cap(b)][len(s):]) != string(make([]byte, cap(b)-len(s))) {
			t.Errorf("%q: what was handed in is changed: %q", s, b)
		}
		if !sameStep(two, want) {
			t.Errorf("%q: two answers share memory: %v", s, two)
		}
		three := Parse(b)
		spoil(b, 'x')
		if !sameStep(three, want) {
			t.Errorf("%q: an answer lies in what was handed in: %v", s, three)
		}
	}
}

func TestParseKeepsNothing(t *testing.T) {
	all := append(samples(), "GET x HTTP/1.1\r\n", chunked+"\r\n1\r\nab", begin, "", chunked+"\r\n1\r\n")
	for _, one := range all {
		for _, two := range all {
			Parse([]byte(one))
			agrees(t, two)
		}
	}
}
