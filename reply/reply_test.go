package reply

import (
	"bufio"
	"bytes"
	"io"
	"math"
	"net/http"
	"slices"
	"strconv"
	"strings"
	"testing"
	"time"

	"stowage/api"
	"stowage/xml"
)

// 17.1

// statuses are more than there are of three digits, and the outermost ones.
func statuses() []int {
	l := []int{math.MinInt, math.MaxInt, math.MinInt32, math.MaxInt32, 200 + 1<<32, 204 - 1<<32, 304 + 1<<16, 100 + 256*1024}
	for status := -1000; status < 3000; status++ {
		l = append(l, status)
	}
	return l
}

func TestPhrase(t *testing.T) {
	if len(byStatus) != 19 {
		t.Fatal(len(byStatus))
	}
	for _, status := range statuses() {
		if got, want := Phrase(status), phraseOf(status); got != want {
			t.Errorf("%d: %q, not %q", status, got, want)
		}
	}
	for status, want := range map[int]string{
		100: "Continue", 200: "OK", 204: "No Content", 206: "Partial Content", 304: "Not Modified", 400: "Bad Request", 403: "Forbidden", 404: "Not Found", 405: "Method Not Allowed", 409: "Conflict", 412: "Precondition Failed", 414: "URI Too Long", 416: "Range Not Satisfiable", 417: "Expectation Failed", 431: "Request Header Fields Too Large", 500: "Internal Server Error", 501: "Not Implemented", 503: "Service Unavailable", 505: "HTTP Version Not Supported",
		0: "Unknown", -200: "Unknown", 101: "Unknown", 201: "Unknown", 301: "Unknown", 307: "Unknown", 401: "Unknown", 411: "Unknown", 502: "Unknown", 999: "Unknown", 1000: "Unknown",
	} {
		if got := Phrase(status); got != want {
			t.Errorf("%d: %q, not %q", status, got, want)
		}
	}
}

func TestBare(t *testing.T) {
	for _, status := range statuses() {
		if got := Bare(status); got != slices.Contains([]int{100, 204, 304}, status) {
			t.Error(status, got)
		}
	}
}

// 17.2

const (
	midnight = "Thu, 01 Jan 1970 00:00:00 GMT"
	lastDate = "Fri, 31 Dec 9999 23:59:59 GMT"
)

// lines puts 0D 0A behind each of l.
func lines(l ...string) string {
	return strings.Join(append(l, ""), "\r\n")
}

// opened tells the four lines that every answer begins with, and l.
func opened(first string, l ...string) string {
	return lines(append([]string{"HTTP/1.1 " + first, "Server: stowage", "Date: " + midnight, "x-amz-request-id: 7"}, l...)...)
}

func TestExample(t *testing.T) {
	want := "HTTP/1.1 204 No Content\r\nServer: stowage\r\nDate: Thu, 01 Jan 1970 00:00:00 GMT\r\nx-amz-request-id: 0\r\n\r\n"
	if got := Print(api.Reply{Status: 204}, false, 0, "0", false); string(got) != want {
		t.Errorf("%q", got)
	}
}

func TestPrint(t *testing.T) {
	l := headers("ETag", "\"x\"", "b", "", "ETag", "z  y")
	for _, c := range []struct {
		r           api.Reply
		head, close bool
		want        string
	}{
		{api.Reply{Status: 200}, false, false, opened("200 OK", "Content-Length: 0", "")},
		{api.Reply{Status: 200}, true, false, opened("200 OK", "Content-Length: 0", "")},
		{api.Reply{Status: 200}, false, true, opened("200 OK", "Content-Length: 0", "Connection: close", "")},
		{api.Reply{Status: 200, Body: []byte("abc")}, false, false, opened("200 OK", "Content-Length: 3", "") + "abc"},
		{api.Reply{Status: 200, Body: []byte("abc")}, true, false, opened("200 OK", "Content-Length: 3", "")},
		{api.Reply{Status: 200, Body: []byte("abc")}, false, true, opened("200 OK", "Content-Length: 3", "Connection: close", "") + "abc"},
		{api.Reply{Status: 200, Body: []byte("abc")}, true, true, opened("200 OK", "Content-Length: 3", "Connection: close", "")},
		{api.Reply{Status: 206, Headers: l}, false, false, opened("206 Partial Content", "ETag: \"x\"", "b: ", "ETag: z  y", "Content-Length: 0", "")},
		{api.Reply{Status: 206, Headers: l, Body: []byte("\r\n\x00\xff")}, false, true, opened("206 Partial Content", "ETag: \"x\"", "b: ", "ETag: z  y", "Content-Length: 4", "Connection: close", "") + "\r\n\x00\xff"},
		{api.Reply{Status: 206, Headers: l, Body: []byte("\r\n\x00\xff")}, true, false, opened("206 Partial Content", "ETag: \"x\"", "b: ", "ETag: z  y", "Content-Length: 4", "")},
		{api.Reply{Status: 100}, false, false, opened("100 Continue", "")},
		{api.Reply{Status: 204}, true, false, opened("204 No Content", "")},
		{api.Reply{Status: 304}, false, true, opened("304 Not Modified", "Connection: close", "")},
		{api.Reply{Status: 304, Headers: l}, false, true, opened("304 Not Modified", "ETag: \"x\"", "b: ", "ETag: z  y", "Connection: close", "")},
		{api.Reply{Status: 304, Headers: l, Body: []byte("abc")}, false, false, opened("304 Not Modified", "ETag: \"x\"", "b: ", "ETag: z  y", "")},
		{api.Reply{Status: 204, Body: []byte("abc")}, false, false, opened("204 No Content", "")},
		{api.Reply{Status: 100, Body: []byte("abc")}, true, true, opened("100 Continue", "Connection: close", "")},
		{api.Reply{Status: 418, Body: []byte("a")}, false, false, opened("418 Unknown", "Content-Length: 1", "") + "a"},
		// Whatever it is given, it is told as it is.
		{api.Reply{}, false, false, opened("0 Unknown", "Content-Length: 0", "")},
		{api.Reply{Status: -7}, false, false, opened("-7 Unknown", "Content-Length: 0", "")},
		{api.Reply{Status: 1000}, false, false, opened("1000 Unknown", "Content-Length: 0", "")},
		{api.Reply{Status: math.MinInt64}, false, false, opened("-9223372036854775808 Unknown", "Content-Length: 0", "")},
		{api.Reply{Status: 200, Headers: headers("", "", " A b", " c\t", "x\r\ny", "\n", "Server", "s", "Connection", "close", "Content-Length", "9")}, false, false, opened("200 OK", ": ", " A b:  c\t", "x\r\ny: \n", "Server: s", "Connection: close", "Content-Length: 9", "Content-Length: 0", "")},
	} {
		if got := Print(c.r, c.head, 0, "7", c.close); string(got) != c.want {
			t.Errorf("%v %v %v: %q, not %q", c.r, c.head, c.close, got, c.want)
		}
	}
}

func TestPrintOfTimesAndIDs(t *testing.T) {
	for at, date := range map[int]string{
		0: midnight, 5: "Thu, 01 Jan 1970 00:00:05 GMT", 1369353600: "Fri, 24 May 2013 00:00:00 GMT", 951868799: "Tue, 29 Feb 2000 23:59:59 GMT", api.Last: lastDate,
		-1: "", api.Last + 1: "", math.MinInt: "", math.MaxInt: "",
	} {
		for _, id := range []string{"", "0", "id", "00000000000000A7", "a b", " \t", "\u00e9\xff", "a\r\nb", strings.Repeat("x", 10000)} {
			for _, close := range []bool{false, true} {
				want := lines("HTTP/1.1 404 Not Found", "Server: stowage", "Date: "+date, "x-amz-request-id: "+id, "Content-Length: 1", "Connection: close", "") + "x"
				if !close {
					want = strings.Replace(want, "Connection: close\r\n", "", 1)
				}
				if got := Print(api.Reply{Status: 404, Body: []byte("x")}, false, at, id, close); string(got) != want {
					t.Errorf("%d %q: %q, not %q", at, id, got, want)
				}
			}
		}
	}
}

func TestPrintOfLengths(t *testing.T) {
	for _, n := range []int{0, 1, 9, 10, 11, 255, 256, 65536, 999999, 1000000, api.MaxBody} {
		body := bytes.Repeat([]byte("a"), n)
		want := opened("200 OK", "Content-Length: "+strconv.Itoa(n), "")
		if got := Print(api.Reply{Status: 200, Body: body}, false, 0, "7", false); string(got) != want+string(body) {
			t.Errorf("%d: %.200q", n, got)
		}
		if got := Print(api.Reply{Status: 200, Body: body}, true, 0, "7", false); string(got) != want {
			t.Errorf("%d: %.200q", n, got)
		}
	}
	many := slices.Repeat(headers("a", "b"), 10000)
	want := opened("200 OK") + strings.Repeat("a: b\r\n", 10000) + "Content-Length: 0\r\n\r\n"
	if got := Print(api.Reply{Status: 200, Headers: many}, false, 0, "7", false); string(got) != want {
		t.Error(len(got), len(want))
	}
}

// 17.4

func TestNode(t *testing.T) {
	const begin = `<?xml version="1.0" encoding="UTF-8"?>` + "\n"
	const space = ` xmlns="http://s3.amazonaws.com/doc/2006-03-01/"`
	for want, n := range map[string]xml.Node{
		begin + "<a" + space + "></a>":                       xml.Of("a", ""),
		begin + "<a" + space + ">x&amp;y</a>":                xml.Of("a", "x&y"),
		begin + "<a" + space + "><b>1 &lt; 2</b><c></c></a>": {Name: "a", Kids: []xml.Node{xml.Of("b", "1 < 2"), xml.Of("c", "")}},
		begin + "<_" + space + "> &#13;&#13;\n\u20ac</_>":    xml.Of("_", " \r\r\n\u20ac"),
	} {
		for _, status := range []int{200, 404, 500, 204, 100, 999, 0, -1, math.MinInt} {
			r := Node(status, n)
			if r.Status != status || !slices.Equal(r.Headers, headers("Content-Type", "application/xml")) || string(r.Body) != want {
				t.Errorf("%d: %v %q, not %q", status, r, r.Body, want)
			}
		}
	}
}

func TestNodeThatCannotBePrinted(t *testing.T) {
	deep := xml.Of("a", "x")
	for range 15 {
		deep = xml.Node{Name: "a", Kids: []xml.Node{deep}}
	}
	if r := Node(200, deep); r.Status != 200 || len(r.Headers) != 1 {
		t.Error(r)
	}
	// The declaration, its line feed and an empty element a with its namespace are 94 bytes.
	if r := Node(200, xml.Of("a", strings.Repeat("x", 65536-94))); r.Status != 200 || len(r.Body) != 65536 {
		t.Error(r.Status, len(r.Body))
	}
	for i, n := range []xml.Node{
		{}, xml.Of("", "x"), xml.Of("a b", ""), xml.Of("1", ""), xml.Of("a", "\x00"), xml.Of("a", "\xff"), xml.Of("a", "\uffff"),
		{Name: "a", Text: "x", Kids: []xml.Node{xml.Of("b", "")}},
		{Name: "a", Kids: []xml.Node{xml.Of("b", ""), xml.Of("", "")}},
		{Name: "a", Kids: []xml.Node{deep}},
		xml.Of("a", strings.Repeat("x", 65536-93)),
		xml.Of("a", strings.Repeat("<", 20000)),
		{Name: "a", Kids: slices.Repeat([]xml.Node{xml.Of("b", "")}, 10000)},
	} {
		for _, status := range []int{200, 404, 500, 304, 0, -1} {
			if r := Node(status, n); r.Status != 500 || len(r.Headers) != 0 || len(r.Body) != 0 {
				t.Errorf("%d: %v %.200v", i, status, r)
			}
		}
	}
}

// What Node tells is an answer that is read again, and the document in it is too.
func TestNodeThereAndBack(t *testing.T) {
	n := xml.Node{Name: "Error", Kids: []xml.Node{xml.Of("Code", "NoSuchKey"), xml.Of("Resource", "/a/<b>\r\n&\u00e9")}}
	r := Node(404, n)
	got, used, ok := Parse(Print(r, false, 5, "id", false), false)
	if !ok || !sameReply(got, r) || used == 0 {
		t.Fatal(got, used, ok)
	}
	back, e := xml.Parse(string(got.Body))
	if e != api.OK || back.Name != n.Name || len(back.Kids) != 2 || back.Kids[0].Text != "NoSuchKey" || back.Kids[1].Text != n.Kids[1].Text {
		t.Error(back, e)
	}
}

// 17.5

// replies are such as 17.5 speaks of, of one status.
func replies(status int) []api.Reply {
	l := []api.Reply{}
	for _, h := range [][]api.Header{
		nil, headers("a", ""), headers("ETag", "\"x\"", "b", "c: d", "ETag", "z \t y", "!#$%&'*+-.^_`|~09", "\u00e9\xff:,;="),
		headers("server", "Server: stowage", "date", midnight, "X-Amz-Request-Id", "7", "content-length", "5", "connection", "close", "Content-length", "x", "CONNECTION", "close", "Content-Lengths", "6", "Content-Type", "Connection: close"),
	} {
		for _, body := range []string{"", "a", "\r\n", "\r\n\r\nabc", "Content-Length: 0\r\n\r\n", "HTTP/1.1 200 OK\r\n", "\x00\xff"} {
			if body == "" || !Bare(status) {
				l = append(l, api.Reply{Status: status, Headers: h, Body: []byte(body)})
			}
		}
	}
	return l
}

func TestParseOfPrint(t *testing.T) {
	times := []int{0, 1369353600, api.Last}
	ids := []string{"", "0", "a \t b: c", "\u00e9\xff"}
	for status := 100; status <= 999; status++ {
		for i, r := range replies(status) {
			for _, close := range []bool{false, true} {
				b := string(Print(r, false, times[(status+i)%3], ids[(status+i)%4], close))
				if got := parse(t, b, false); !sameAnswer(got, answer{r, len(b), true}) {
					t.Fatalf("%q: %v", b, got)
				}
				headed := api.Reply{Status: status, Headers: r.Headers}
				b = string(Print(r, true, times[(status+i)%3], ids[(status+i)%4], close))
				if got := parse(t, b, true); !sameAnswer(got, answer{headed, len(b), true}) {
					t.Fatalf("%q: %v", b, got)
				}
			}
		}
	}
}

func TestEveryTimeAndIDGoesThereAndBack(t *testing.T) {
	r := api.Reply{Status: 206, Headers: headers("a", "b"), Body: []byte("abc")}
	for at := 0; at <= api.Last; at += 86400*97 + 3607 {
		b := string(Print(r, false, at, "7", false))
		if got := parse(t, b, false); !sameAnswer(got, answer{r, len(b), true}) {
			t.Fatalf("%q: %v", b, got)
		}
	}
	for _, id := range []string{"x", strings.Repeat("x y", 10000), "a\x80b", "\x80", "~", "!"} {
		b := string(Print(r, false, 0, id, true))
		if got := parse(t, b, false); !sameAnswer(got, answer{r, len(b), true}) {
			t.Fatalf("%.200q: %.200v", b, got)
		}
	}
}

// Statuses of other than three digits, and what is no time, are written but not read.
func TestWhatIsWrittenButNotRead(t *testing.T) {
	for _, status := range []int{math.MinInt, -204, -100, -1, 0, 1, 10, 20, 99, 1000, 2000, 20000, math.MaxInt} {
		if got := parse(t, string(Print(api.Reply{Status: status}, false, 0, "7", false)), false); !sameAnswer(got, answer{}) {
			t.Error(status, got)
		}
	}
	for _, at := range []int{-1, api.Last + 1, math.MinInt, math.MaxInt} {
		if got := parse(t, string(Print(api.Reply{Status: 200}, false, at, "7", false)), false); !sameAnswer(got, answer{}) {
			t.Error(at, got)
		}
	}
}

func TestAStreamOfAnswers(t *testing.T) {
	var all []byte
	var l []api.Reply
	for _, status := range []int{100, 200, 204, 304, 404, 999} {
		l = append(l, replies(status)...)
	}
	for i, r := range l {
		all = append(all, Print(r, i%3 == 0, i, "7", i%2 == 0)...)
	}
	for i, r := range l {
		got, used, ok := Parse(all, i%3 == 0)
		if i%3 == 0 {
			r.Body = nil
		}
		if !ok || !sameReply(got, r) {
			t.Fatal(i, got, r)
		}
		all = all[used:]
	}
	if len(all) != 0 {
		t.Error(len(all))
	}
}

// The library reads of an answer what it is.
func TestTheLibraryReadsTheSame(t *testing.T) {
	for _, status := range []int{100, 200, 204, 206, 304, 404, 418, 503, 999} {
		for _, method := range []string{"GET", "HEAD"} {
			for i, body := range []string{"", "a", "\r\n\r\n", strings.Repeat("xyz\r\n", 1000)} {
				r := api.Reply{Status: status, Headers: headers("Etag", "\"x\"", "X-B", "", "Etag", "z  y"), Body: []byte(body)}
				b := Print(r, method == "HEAD", 1369353600, "7", i%2 == 0)
				told, err := http.ReadResponse(bufio.NewReader(bytes.NewReader(b)), &http.Request{Method: method})
				if err != nil {
					t.Fatalf("%q: %v", b, err)
				}
				got, err := io.ReadAll(told.Body)
				if method == "HEAD" || Bare(status) {
					body = ""
				}
				if err != nil || told.StatusCode != status || told.Status != strconv.Itoa(status)+" "+phraseOf(status) || string(got) != body || told.Close != (i%2 == 0) {
					t.Errorf("%q: %v %q %v", b, told, got, err)
				}
				if !slices.Equal(told.Header["Etag"], []string{"\"x\"", "z  y"}) || told.Header.Get("Server") != "stowage" || told.Header.Get("Date") != "Fri, 24 May 2013 00:00:00 GMT" || told.Header.Get("X-Amz-Request-Id") != "7" {
					t.Errorf("%q: %v", b, told.Header)
				}
			}
		}
	}
}

// 17.6

// spoil changes a list and its spare room.
func spoil[T any](l []T, with T) {
	l = l[:cap(l)]
	for i := range l {
		l[i] = with
	}
}

func TestPrintIsNewMemory(t *testing.T) {
	body := append(make([]byte, 0, 100), "abc"...)
	l := append(make([]api.Header, 0, 10), headers("a", "b", "c", "d")...)
	for _, r := range []api.Reply{{Status: 200, Headers: l, Body: body}, {Status: 304, Headers: l, Body: body}, {Status: 200, Body: body}} {
		for _, head := range []bool{false, true} {
			one, two := Print(r, head, 0, "7", true), Print(r, head, 0, "7", true)
			want := string(two)
			spoil(one, 'x')
			if string(two) != want {
				t.Errorf("%q, not %q", two, want)
			}
			if string(body[:cap(body)]) != "abc"+string(make([]byte, 97)) || !slices.Equal(l[:cap(l)], append(headers("a", "b", "c", "d"), make([]api.Header, 8)...)) {
				t.Errorf("%q %q", body[:cap(body)], l[:cap(l)])
			}
		}
	}
	told := Print(api.Reply{Status: 200, Headers: l, Body: body}, false, 0, "7", false)
	spoil(body, 'x')
	spoil(l, api.Header{Name: "x"})
	if want := opened("200 OK", "a: b", "c: d", "Content-Length: 3", "") + "abc"; string(told) != want {
		t.Errorf("%q", told)
	}
}

func TestNodeIsNewMemory(t *testing.T) {
	kids := append(make([]xml.Node, 0, 4), xml.Of("b", "c"))
	n := xml.Node{Name: "a", Kids: kids}
	one, two := Node(200, n), Node(200, n)
	want := string(two.Body)
	spoil(one.Body, 'x')
	spoil(one.Headers, api.Header{Name: "x"})
	kids[0].Text = "d"
	if string(two.Body) != want || !strings.Contains(want, "<b>c</b>") || !slices.Equal(two.Headers, headers("Content-Type", "application/xml")) {
		t.Error(two)
	}
	kids[0].Text = "c"
	if three := Node(200, n); !sameReply(two, three) {
		t.Error(three)
	}
	for _, kid := range kids[1:cap(kids)] {
		if kid.Name != "" {
			t.Error(kid)
		}
	}
}

// ends fails the test if f takes far too long.
func ends(t *testing.T, what string, f func()) {
	t.Helper()
	done := make(chan struct{})
	go func() {
		defer close(done)
		f()
	}()
	select {
	case <-done:
	case <-time.After(20 * time.Second):
		t.Fatal(what, "does not end")
	}
}

func TestTheOtherCallsEnd(t *testing.T) {
	for _, piece := range []string{"a", "\r\n", "\x00", "\xff", " ", ": ", "<&>"} {
		s := strings.Repeat(piece, 1000000/len(piece))
		ends(t, piece, func() {
			Print(api.Reply{Status: 200, Headers: slices.Repeat(headers(s, s), 3), Body: []byte(s)}, false, 0, s, true)
			Print(api.Reply{Status: 200, Headers: slices.Repeat(headers(piece, piece), 300000)}, true, -1, piece, true)
			Node(200, xml.Of(s, s))
			Node(200, xml.Of("a", s))
		})
	}
	// A node whose lists hold themselves.
	loop := []xml.Node{{Name: "a"}, {Name: "a"}}
	loop[0].Kids, loop[1].Kids = loop, loop
	ends(t, "loop", func() {
		if r := Node(200, xml.Node{Name: "a", Kids: loop}); r.Status != 500 || len(r.Headers) != 0 || len(r.Body) != 0 {
			t.Error(r.Status, r.Headers)
		}
	})
}
