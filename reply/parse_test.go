package reply

import (
	"math/rand"
	"slices"
	"strconv"
	"strings"
	"testing"

	"stowage/api"
)

// samples are answers to others than HEAD, with all that may stand in one.
func samples() []string {
	return []string{
		opened("200 OK", "Content-Length: 0", ""),
		opened("200 OK", "Content-Length: 5", "Connection: close", "") + "a\r\n\x00\xff",
		opened("206 Partial Content", "ETag: \"x\"", "b: ", "ETag: z \t y: w", "content-length: 7", "Content-Length: 2", "") + "\r\n",
		opened("204 No Content", ""),
		opened("100 Continue", "Connection: close", ""),
		opened("304 Not Modified", "ETag: \"x\"", "connection: close", "a: Connection: close", ""),
		opened("304 Not Modified", "a: b", "Connection: close", ""),
		strings.Replace(opened("999 Unknown", "x-y: v", "Content-Length: 12", ""), "id: 7", "id: ", 1) + "Date: a\r\n\r\nb",
		strings.Replace(opened("431 Request Header Fields Too Large", "Content-Length: 1", ""), midnight, lastDate, 1) + "x",
	}
}

// tails are what may stand behind an answer.
func tails() []string {
	return append(samples(), "", "\r", "\n", "\r\n", "\x00", "a", "Connection: close\r\n\r\n", "HTTP/1.1", strings.Repeat("a", 1000))
}

// refuses asks for false of s, whatever stands behind it.
func refuses(t *testing.T, s string) {
	t.Helper()
	for _, more := range tails() {
		for _, head := range []bool{false, true} {
			if got := parse(t, s+more, head); !sameAnswer(got, answer{}) {
				t.Errorf("%.300q, %.40q behind, %v: %.300v", s, more, head, got)
			}
		}
	}
}

// takes asks that s is a whole answer that tells r, whatever stands behind it.
func takes(t *testing.T, s string, head bool, r api.Reply) {
	t.Helper()
	for _, more := range tails() {
		if got := parse(t, s+more, head); !sameAnswer(got, answer{r, len(s), true}) {
			t.Errorf("%.300q, %.40q behind, %v: %.300v", s, more, head, got)
		}
	}
	if !model(s, head).ok {
		t.Errorf("%.300q: not for the model", s)
	}
}

// headOf is what of an answer stands ahead of its body.
func headOf(s string) string {
	return s[:strings.Index(s, "\r\n\r\n")+4]
}

// 17.3

func TestParse(t *testing.T) {
	wants := []api.Reply{
		{Status: 200},
		{Status: 200, Body: []byte("a\r\n\x00\xff")},
		{Status: 206, Headers: headers("ETag", "\"x\"", "b", "", "ETag", "z \t y: w", "content-length", "7"), Body: []byte("\r\n")},
		{Status: 204},
		{Status: 100},
		{Status: 304, Headers: headers("ETag", "\"x\"", "connection", "close", "a", "Connection: close")},
		{Status: 304, Headers: headers("a", "b")},
		{Status: 999, Headers: headers("x-y", "v"), Body: []byte("Date: a\r\n\r\nb")},
		{Status: 431, Body: []byte("x")},
	}
	for i, s := range samples() {
		takes(t, s, false, wants[i])
		takes(t, headOf(s), true, api.Reply{Status: wants[i].Status, Headers: wants[i].Headers})
	}
}

func TestBeginnings(t *testing.T) {
	for _, s := range samples() {
		for i := range len(s) {
			if got := parse(t, s[:i], false); !sameAnswer(got, answer{}) {
				t.Fatalf("%q: %v", s[:i], got)
			}
		}
		for i := range len(headOf(s)) {
			if got := parse(t, s[:i], true); !sameAnswer(got, answer{}) {
				t.Fatalf("%q: %v", s[:i], got)
			}
		}
	}
	if got := parse(t, "", false); !sameAnswer(got, answer{}) {
		t.Error(got)
	}
	if r, used, ok := Parse(nil, true); !sameAnswer(answer{r, used, ok}, answer{}) {
		t.Error(r, used, ok)
	}
}

func TestFirstLines(t *testing.T) {
	for status := range 1200 {
		for _, digits := range []string{strconv.Itoa(status), "0" + strconv.Itoa(status), strings.Repeat("0", max(0, 3-len(strconv.Itoa(status)))) + strconv.Itoa(status)} {
			s := opened(digits+" "+phraseOf(status), "a: b", "Content-Length: 0", "")
			if status == 100 || status == 204 || status == 304 {
				s = opened(digits+" "+phraseOf(status), "a: b", "")
			}
			if status >= 100 && status <= 999 && digits[0] != '0' {
				takes(t, s, false, api.Reply{Status: status, Headers: headers("a", "b")})
			} else {
				refuses(t, s)
			}
		}
	}
	for _, line := range []string{
		"", " ", "HTTP/1.1", "HTTP/1.1 ", "HTTP/1.1 200", "HTTP/1.1 200 ", "HTTP/1.1 OK", "HTTP/1.1 200OK", "HTTP/1.1200 OK", "HTTP/1.1  200 OK", "HTTP/1.1 200  OK", "HTTP/1.1\t200 OK", "HTTP/1.1 200\tOK", " HTTP/1.1 200 OK", "HTTP/1.1 200 OK ",
		"HTTP/1.0 200 OK", "HTTP/2.0 200 OK", "http/1.1 200 OK", "HTTP/1.1 200 ok", "HTTP/1.1 200 Ok", "HTTP/1.1 200 OKAY", "HTTP/1.1 200 O", "HTTP/1.1 200 Unknown", "HTTP/1.1 200 Not Found", "HTTP/1.1 404 OK", "HTTP/1.1 404 Not", "HTTP/1.1 404 Not  Found", "HTTP/1.1 404 NotFound", "HTTP/1.1 201 Created", "HTTP/1.1 201 unknown", "HTTP/1.1 201 OK",
		"HTTP/1.1 20 OK", "HTTP/1.1 2 00 OK", "HTTP/1.1 2000 OK", "HTTP/1.1 +20 Unknown", "HTTP/1.1 -20 Unknown", "HTTP/1.1 +200 OK", "HTTP/1.1 0200 OK", "HTTP/1.1 2x0 Unknown", "HTTP/1.1 x00 Unknown", "HTTP/1.1 0 Unknown", "HTTP/1.1 00 Unknown", "HTTP/1.1 000 Unknown", "HTTP/1.1 020 Unknown", "HTTP/1.1 2e2 OK", "HTTP/1.1 \u0662\u0660\u0660 OK", "HTTP/1.1 200 OK\r", "HTTP/1.1 200 OK\n", "HTTP/1.1 200\n OK", "HTTP/1.1 200 OK\x00", "GET / HTTP/1.1",
	} {
		refuses(t, lines(line, "Server: stowage", "Date: "+midnight, "x-amz-request-id: 7", "Content-Length: 0", ""))
		refuses(t, lines(line, "Server: stowage", "Date: "+midnight, "x-amz-request-id: 7", ""))
	}
}

func TestServerLines(t *testing.T) {
	for _, line := range []string{"", "Server: ", "Server:stowage", "Server:  stowage", "Server: stowage ", "Server: Stowage", "Server: stowage/1", "Server: stowag", "Server: x", "server: stowage", "SERVER: stowage", "Servers: stowage", " Server: stowage", "stowage", "Server: stowage\n", "Server: stowage\x00", "Server : stowage"} {
		refuses(t, strings.Replace(samples()[0], "Server: stowage", line, 1))
		refuses(t, strings.Replace(samples()[3], "Server: stowage", line, 1))
	}
}

func TestDateLines(t *testing.T) {
	for date, want := range map[string]bool{
		midnight: true, lastDate: true, "Fri, 24 May 2013 00:00:00 GMT": true, "Tue, 29 Feb 2000 23:59:59 GMT": true,
		"": false, "0": false, "Fri, 24 May 2013": false, "Thu, 24 May 2013 00:00:00 GMT": false, "Fri, 24 May 2013 00:00:00": false, "Fri, 24 May 2013 00:00:00 UTC": false, "Fri, 24 May 2013 00:00:00 GMT ": false, " Fri, 24 May 2013 00:00:00 GMT": false, "fri, 24 may 2013 00:00:00 gmt": false, "Fri, 24 May 2013 24:00:00 GMT": false, "Fri, 24 May 2013 00:60:00 GMT": false, "Fri, 24 May 2013 00:00:60 GMT": false, "Tue, 30 Feb 2000 00:00:00 GMT": false, "Wed, 31 Dec 1969 23:59:59 GMT": false, "Sat, 01 Jan 10000 00:00:00 GMT": false, "Fri, 4 May 2013 00:00:00 GMT": false, "Friday, 24-May-13 00:00:00 GMT": false, "Fri May 24 00:00:00 2013": false, "20130524T000000Z": false, "2013-05-24T00:00:00.000Z": false, "Fri, 24 May 2013 00:00:00 GMT\n": false,
	} {
		s := strings.Replace(samples()[0], midnight, date, 1)
		if want {
			takes(t, s, false, api.Reply{Status: 200})
		} else {
			refuses(t, s)
		}
	}
	for _, line := range []string{"", midnight, "Date:" + midnight, "Date:  " + midnight, "date: " + midnight, "DATE: " + midnight, "Dates: " + midnight, " Date: " + midnight, "Date : " + midnight, "Server: stowage"} {
		refuses(t, strings.Replace(samples()[0], "Date: "+midnight, line, 1))
		refuses(t, strings.Replace(samples()[3], "Date: "+midnight, line, 1))
	}
}

func TestIDLines(t *testing.T) {
	for id, want := range map[string]bool{
		"": true, "0": true, "a": true, "a b": true, "a\tb": true, "a  \t b": true, "a: b": true, ":": true, "\u00e9": true, "\x80": true, "\xff": true, "x-amz-request-id: 7": true, strings.Repeat("x", 70000): true,
		" ": false, "\t": false, " a": false, "a ": false, "\ta": false, "a\t": false, "a b ": false, "\x00": false, "a\x00b": false, "a\x1fb": false, "\x7f": false, "a\nb": false, "a\rb": false, "a\r": false, "\n": false,
	} {
		s := strings.Replace(samples()[0], "id: 7", "id: "+id, 1)
		if want {
			takes(t, s, false, api.Reply{Status: 200})
		} else {
			refuses(t, s)
		}
	}
	for _, line := range []string{"", "x-amz-request-id:", "x-amz-request-id:7", "x-amz-request-id 7", "X-Amz-Request-Id: 7", "x-amz-request-ids: 7", "x-amz-id: 7", " x-amz-request-id: 7", "x-amz-request-id : 7", "a: b"} {
		refuses(t, strings.Replace(samples()[0], "x-amz-request-id: 7", line, 1))
		refuses(t, strings.Replace(samples()[3], "x-amz-request-id: 7", line, 1))
	}
}

// withField puts a line among the headers: of an answer that is bare and of one that is not, first, between and last.
func withField(line string) []string {
	return []string{
		opened("200 OK", line, "Content-Length: 0", ""), opened("200 OK", "a: b", line, "c: d", "Content-Length: 0", ""), opened("200 OK", line, "Content-Length: 0", "Connection: close", ""),
		opened("204 No Content", line, ""), opened("204 No Content", "a: b", line, "c: d", ""), opened("204 No Content", line, "Connection: close", ""),
	}
}

func TestHeaders(t *testing.T) {
	for line, want := range map[string]api.Header{
		"x: y": {Name: "x", Value: "y"}, "x: ": {Name: "x"}, "X-y: Z": {Name: "X-y", Value: "Z"}, "x: y z": {Name: "x", Value: "y z"}, "x: y \t z": {Name: "x", Value: "y \t z"}, "x: :": {Name: "x", Value: ":"}, "x: : ": {}, "x: y: z": {Name: "x", Value: "y: z"}, "x: y:z": {Name: "x", Value: "y:z"},
		"!#$%&'*+-.^_`|~09AZaz: \u00e9\x80\xff~": {Name: "!#$%&'*+-.^_`|~09AZaz", Value: "\u00e9\x80\xff~"}, "0: !": {Name: "0", Value: "!"}, "x: " + strings.Repeat("y", 70000): {Name: "x", Value: strings.Repeat("y", 70000)}, strings.Repeat("x", 70000) + ": y": {Name: strings.Repeat("x", 70000), Value: "y"},
		// Without just `: ` behind a Token.
		"x": {}, "x:": {}, "x:y": {}, "x y": {}, "x :y": {}, "x : y": {}, " x: y": {}, "\tx: y": {}, ": y": {}, ": ": {}, ":": {}, " ": {}, "x:\ty": {}, "x y: z": {}, "x:y: z": {}, "x:: y": {}, "(x): y": {}, "\"x\": y": {}, "x/y: z": {}, "x@y: z": {}, "\u00e9: y": {}, "\xff: y": {}, "x\x00: y": {}, "{: y": {}, "x,: y": {},
		// With a value that is none, or not as its Trim.
		"x:  y": {}, "x:  ": {}, "x: y ": {}, "x: \ty": {}, "x: y\t": {}, "x: \t": {}, "x: \x00": {}, "x: y\x00z": {}, "x: \x7f": {}, "x: y\x1fz": {}, "x: y\nz": {}, "x: y\rz": {}, "x: y\r": {}, "x: \n": {}, "x\n: y": {},
		// Named as a line that Print adds, or nearly so.
		"Server: stowage": {}, "Server: a": {}, "Server: ": {}, "Date: " + midnight: {}, "Date: x": {}, "x-amz-request-id: 7": {}, "x-amz-request-id: ": {}, "Connection: x": {}, "Connection: keep-alive": {}, "Connection: Close": {}, "Connection: ": {}, "Connection: close ": {}, "Connection:close": {}, "Content-Length: x": {}, "Content-Length: ": {}, "Content-Length:0": {}, "Content-Length:": {},
		"server: a": {Name: "server", Value: "a"}, "SERVER: a": {Name: "SERVER", Value: "a"}, "date: a": {Name: "date", Value: "a"}, "X-amz-request-id: a": {Name: "X-amz-request-id", Value: "a"}, "connection: close": {Name: "connection", Value: "close"}, "content-length: 1": {Name: "content-length", Value: "1"}, "Content-length: x": {Name: "Content-length", Value: "x"}, "Content-Lengths: 1": {Name: "Content-Lengths", Value: "1"}, "-Content-Length: 1": {Name: "-Content-Length", Value: "1"}, "Servers: a": {Name: "Servers", Value: "a"}, "x-amz-request-ids: a": {Name: "x-amz-request-ids", Value: "a"}, "x: Server: a": {Name: "x", Value: "Server: a"},
	} {
		for i, s := range withField(line) {
			if want == (api.Header{}) {
				refuses(t, s)
				continue
			}
			r := api.Reply{Status: 200, Headers: []api.Header{want}}
			if i%3 == 1 {
				r.Headers = slices.Concat(headers("a", "b"), r.Headers, headers("c", "d"))
			}
			if i >= 3 {
				r.Status = 204
			}
			takes(t, s, false, r)
			takes(t, s, true, r)
		}
	}
}

func TestHeadersOfEachByte(t *testing.T) {
	for c := range 256 {
		b := string([]byte{byte(c)})
		for _, line := range []string{b + ": y", "x" + b + ": y", "x" + b + "z: y", "x: " + b, "x: " + b + "y", "x: y" + b, "x: y" + b + "z", "x" + b + " y", "x:" + b + "y"} {
			for _, s := range withField(line) {
				bothAgree(t, s)
			}
		}
	}
}

func TestManyHeaders(t *testing.T) {
	for _, n := range []int{0, 1, 99, 100, 101, 5000} {
		many := slices.Repeat([]string{"a: b"}, n)
		r := api.Reply{Status: 200, Headers: slices.Repeat(headers("a", "b"), n)}
		takes(t, opened("200 OK", slices.Concat(many, []string{"Content-Length: 0", ""})...), false, r)
		r.Status = 304
		takes(t, opened("304 Not Modified", slices.Concat(many, []string{""})...), false, r)
	}
}

func TestLengths(t *testing.T) {
	for _, body := range []string{"", "a", "abcdefghij", "\r\n", strings.Repeat("xyz\r\n", 50000)} {
		n := strconv.Itoa(len(body))
		s := opened("200 OK", "Content-Length: "+n, "")
		takes(t, s+body, false, api.Reply{Status: 200, Body: []byte(body)})
		takes(t, s, true, api.Reply{Status: 200})
		for _, wrong := range []string{"0" + n, "+" + n, "-" + n, " " + n, n + " ", "\t" + n, n + "\t", n + "x", "x" + n, n + ".0", n + ",", n + "\n", n + "\r", n + "\x00", "0x" + n} {
			refuses(t, opened("200 OK", "Content-Length: "+wrong, "")+body)
			refuses(t, opened("200 OK", "a: b", "Content-Length: "+wrong, "Connection: close", "")+body)
		}
	}
	// More bytes than are there.
	for _, n := range []string{"4", "5", "10", "1048576", "2147483648", "4294967299", strings.Repeat("9", 18)} {
		s := opened("200 OK", "Content-Length: "+n, "") + "abc"
		if got := parse(t, s, false); !sameAnswer(got, answer{}) {
			t.Errorf("%q: %v", s, got)
		}
		if got := parse(t, s, true); !sameAnswer(got, answer{api.Reply{Status: 200}, len(s) - 3, true}) {
			t.Errorf("%q: %v", s, got)
		}
	}
	for _, n := range []string{"", "00", "000", "01", "1" + strings.Repeat("0", 18), strings.Repeat("9", 19), "18446744073709551616", "18446744073709551619", "9223372036854775807", strings.Repeat("9", 1000), "one", "\u0663"} {
		refuses(t, opened("200 OK", "Content-Length: "+n, "")+"abc")
		refuses(t, opened("200 OK", "Content-Length: "+n, "Connection: close", ""))
	}
}

// Headers end at the first Content-Length, or if bare at the first Connection: close; behind them but one line more may stand, if any.
func TestEndsOfHeaders(t *testing.T) {
	refuses(t, opened("200 OK", ""))
	refuses(t, opened("200 OK", "a: b", ""))
	refuses(t, opened("200 OK", "Connection: close", ""))
	refuses(t, opened("200 OK", "Connection: close", "Content-Length: 0", ""))
	refuses(t, opened("200 OK", "content-length: 0", ""))
	for _, line := range []string{"a: b", "Content-Length: 0", "Server: stowage", "connection: close", "Connection: Close", "Connection: keep-alive", "Connection:close", "Connection:  close", "Connection: close ", " Connection: close", "Connection: close\n", "Connection: close\x00", " ", "\r", "\n", "x"} {
		refuses(t, opened("200 OK", "Content-Length: 0", line, ""))
		refuses(t, opened("200 OK", "Content-Length: 0", "Connection: close", line, ""))
		refuses(t, opened("204 No Content", "Connection: close", line, ""))
	}
	refuses(t, opened("200 OK", "Content-Length: 0", "Connection: close", "Connection: close", ""))
	refuses(t, opened("204 No Content", "Connection: close", "Connection: close", ""))
	refuses(t, opened("204 No Content", "Connection: close", "x: y", ""))
	for _, status := range []string{"100 Continue", "204 No Content", "304 Not Modified"} {
		refuses(t, opened(status, "Content-Length: 0", ""))
		refuses(t, opened(status, "a: b", "Content-Length: 3", "Connection: close", ""))
	}
}

// What is bare has no body, whatever stands behind it; nor has the answer to HEAD, whatever length it tells.
func TestNoBody(t *testing.T) {
	for _, first := range []string{"100 Continue", "204 No Content", "304 Not Modified"} {
		status, _ := strconv.Atoi(first[:3])
		for _, head := range []bool{false, true} {
			takes(t, opened(first, "a: b", ""), head, api.Reply{Status: status, Headers: headers("a", "b")})
			takes(t, opened(first, "Connection: close", ""), head, api.Reply{Status: status})
		}
	}
	for _, n := range []string{"0", "1", "3", "1000", strings.Repeat("9", 18)} {
		takes(t, opened("404 Not Found", "Content-Length: "+n, ""), true, api.Reply{Status: 404})
		takes(t, opened("404 Not Found", "Content-Length: "+n, "Connection: close", ""), true, api.Reply{Status: 404})
	}
}

// Lines missing, doubled, in another place, and with another end than 0D 0A.
func TestLinesChanged(t *testing.T) {
	for _, s := range samples() {
		l := strings.Split(headOf(s), "\r\n")
		l = l[:len(l)-1]
		body := s[len(headOf(s)):]
		ask := func(l []string) { bothAgree(t, lines(l...)+body) }
		for i, line := range l {
			ask(slices.Delete(slices.Clone(l), i, i+1))
			for j := range len(l) + 1 {
				ask(slices.Insert(slices.Clone(l), j, line))
			}
			for j := range l {
				swapped := slices.Clone(l)
				swapped[i], swapped[j] = swapped[j], swapped[i]
				ask(swapped)
			}
			for _, end := range []string{"", "\r", "\n", "\n\r", "\r\r\n", "\n\r\n", " \r\n", "\t\r\n", "\r\n\r\n"} {
				bothAgree(t, lines(l[:i]...)+line+end+lines(l[i+1:]...)+body)
				if i+1 < len(l) && end != "\r\n\r\n" {
					refuses(t, lines(l[:i]...)+line+end+lines(l[i+1:]...)+body)
				}
			}
		}
		// The four lines that begin it, and where there is a length that, stand just once and there.
		for i := range 4 {
			refuses(t, lines(slices.Delete(slices.Clone(l), i, i+1)...))
			for j := range l {
				refuses(t, lines(slices.Insert(slices.Clone(l), j, l[i])...))
			}
		}
	}
}

func TestChangedBytes(t *testing.T) {
	for _, s := range samples() {
		for i := range len(s) {
			bothAgree(t, s[:i]+s[i+1:])
			bothAgree(t, s[i:])
			for c := range 256 {
				b := string([]byte{byte(c)})
				bothAgree(t, s[:i]+b+s[i:])
				bothAgree(t, s[:i]+b+s[i+1:])
			}
			for _, piece := range []string{"\r\n", "\r\n\r\n", ": ", "x: y\r\n", "Connection: close\r\n", "Content-Length: 0\r\n", "Content-Length: 1\r\n\r\n", "Server: stowage\r\n"} {
				bothAgree(t, s[:i]+piece+s[i:])
			}
		}
		for i := range len(s) {
			for j := i + 1; j < len(s); j++ {
				agrees(t, s[:i]+s[j:], j%2 == 0)
			}
		}
	}
}

// Answers put together of pieces, at all of which something may be wrong.
func TestPiecesPutTogether(t *testing.T) {
	pieces := []string{"a: b\r\n", "c: d e\r\n", "f: \r\n", "Content-Length: 0\r\n", "Content-Length: 3\r\n", "Connection: close\r\n", "\r\n", "\r\n", "abc", "x", "Server: stowage\r\n", "content-length: 3\r\n", "connection: close\r\n", "x:y\r\n", "\r", "\n", " "}
	random := rand.New(rand.NewSource(17))
	told := map[bool]int{}
	for range 100000 {
		var s strings.Builder
		s.WriteString(opened([]string{"200 OK", "204 No Content", "201 Unknown", "304 Not Modified"}[random.Intn(4)]))
		for range random.Intn(8) {
			s.WriteString(pieces[random.Intn(len(pieces))])
		}
		told[agrees(t, s.String(), false)]++
		told[agrees(t, s.String(), true)]++
	}
	if told[true] < 5000 || told[false] < 5000 {
		t.Error(told)
	}
}

// 17.5: what Parse tells, Print writes as it was, but the date, the id and what stands behind.
func TestPrintOfParse(t *testing.T) {
	random := rand.New(rand.NewSource(175))
	pieces := []string{"a: b\r\n", "Etag: \"x\"\r\n", "c: \r\n", "Content-Length: 0\r\n", "Content-Length: 3\r\n", "Connection: close\r\n", "\r\n", "\r\n", "abc"}
	read := 0
	for range 30000 {
		s := opened([]string{"200 OK", "204 No Content", "417 Expectation Failed", "100 Continue"}[random.Intn(4)])
		for range random.Intn(7) {
			s += pieces[random.Intn(len(pieces))]
		}
		r, used, ok := Parse([]byte(s), false)
		if !ok {
			continue
		}
		read++
		if got := Print(r, false, 0, "7", strings.Contains(s[:used], "\r\nConnection: close\r\n")); string(got) != s[:used] {
			t.Fatalf("%q, not %q", got, s[:used])
		}
	}
	if read < 1000 {
		t.Error(read)
	}
}

// 17.6

func TestAnyBytes(t *testing.T) {
	const signs = "\r\n\r\n :aC01HTP.\x00\xff"
	random := rand.New(rand.NewSource(6))
	for range 50000 {
		b := make([]byte, random.Intn(60))
		for i := range b {
			b[i] = signs[random.Intn(len(signs))]
		}
		bothAgree(t, string(b))
		bothAgree(t, opened("200 OK")+string(b))
		bothAgree(t, opened("204 No Content")+string(b))
	}
}

func TestParseEnds(t *testing.T) {
	ahead := []string{"", "HTTP/1.1 200 OK\r\n", opened("200 OK"), opened("204 No Content"), opened("200 OK", "a: b") + "x: ", opened("200 OK") + "Content-Length: ", opened("200 OK", "Content-Length: 1"), opened("200 OK", "Content-Length: 1000000", "")}
	for _, first := range ahead {
		for _, piece := range []string{"a", "\r", "\n", "\r\n", "\n\r", " ", ": ", "a: b\r\n", "a: \r\n", "Content-Length: 0\r\n", "Connection: close\r\n", "\x00", "\xff", "9", opened("200 OK")} {
			b := []byte(first + strings.Repeat(piece, 2000000/len(piece)))
			ends(t, first+piece, func() {
				for _, head := range []bool{false, true} {
					if r, used, ok := Parse(b, head); !ok && !sameAnswer(answer{r, used, ok}, answer{}) {
						t.Errorf("%q %q: %v", first, piece, used)
					}
				}
			})
		}
	}
}

func TestParseIsNewMemory(t *testing.T) {
	for _, s := range samples() {
		want := model(s, false)
		b := append(make([]byte, 0, len(s)+100), s...)
		one, _, _ := Parse(b, false)
		two, _, _ := Parse(b, false)
		spoil(one.Body, 'x')
		spoil(one.Headers, api.Header{Name: "spoilt", Value: "spoilt"})
		if string(b) != s || string(b[:cap(b)][len(s):]) != string(make([]byte, cap(b)-len(s))) {
			t.Errorf("%q: what was handed in is changed: %q", s, b[:cap(b)])
		}
		if !sameReply(two, want.r) {
			t.Errorf("%q: two answers share memory: %v", s, two)
		}
		three, _, _ := Parse(b, false)
		spoil(b, 'x')
		if !sameReply(three, want.r) {
			t.Errorf("%q: an answer lies in what was handed in: %v", s, three)
		}
	}
}

func TestParseKeepsNothing(t *testing.T) {
	all := append(samples(), "", "HTTP/1.1 200 OK\r\n", opened("200 OK", "a: b"), opened("200 OK", "Content-Length: 9", "")+"abc")
	for _, one := range all {
		for _, two := range all {
			Parse([]byte(one), false)
			bothAgree(t, two)
		}
	}
}
