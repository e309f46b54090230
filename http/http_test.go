package http

import (
	"bufio"
	"io"
	library "net/http"
	"slices"
	"strconv"
	"strings"
	"testing"

	"stowage/api"
)

// 16.4

func TestGetAndAll(t *testing.T) {
	l := headers("a", "1", "b", "2", "a", "3", "", "4", "c", "", "a", "1", "A", "5", " a", "6", "c", "7")
	for name, want := range map[string][]string{
		"a": {"1", "3", "1"}, "b": {"2"}, "": {"4"}, "c": {"", "7"}, "A": {"5"}, " a": {"6"},
		"B": nil, "C": nil, "d": nil, "a ": nil, "ab": nil, "\x00": nil,
	} {
		if got := All(l, name); !slices.Equal(got, want) {
			t.Errorf("%q: %q", name, got)
		}
		first := append(want, "")[0]
		if value, ok := Get(l, name); value != first || ok != (len(want) > 0) {
			t.Errorf("%q: %q %v", name, value, ok)
		}
		if value, ok := Get(nil, name); value != "" || ok || len(All(nil, name)) != 0 {
			t.Errorf("%q: %q %v", name, value, ok)
		}
	}
}

func TestQuery(t *testing.T) {
	for target, want := range map[string]struct {
		path string
		l    []api.Header
	}{
		"":                      {"", nil},
		"/":                     {"/", nil},
		"*":                     {"*", nil},
		"/a":                    {"/a", nil},
		"/a?":                   {"/a", nil},
		"?":                     {"", nil},
		"?a":                    {"", headers("a", "")},
		"/a?b":                  {"/a", headers("b", "")},
		"/a?b=":                 {"/a", headers("b", "")},
		"/a?b=c":                {"/a", headers("b", "c")},
		"/a?b=c=d":              {"/a", headers("b", "c=d")},
		"/a?b==":                {"/a", headers("b", "=")},
		"/a?=":                  {"/a", headers("", "")},
		"/a?=b":                 {"/a", headers("", "b")},
		"/a?&":                  {"/a", nil},
		"/a?&&&":                {"/a", nil},
		"/a?&b&&c=d&":           {"/a", headers("b", "", "c", "d")},
		"/a?b=1&b=2&B=3&b=1":    {"/a", headers("b", "1", "b", "2", "B", "3", "b", "1")},
		"/a?z&y&x":              {"/a", headers("z", "", "y", "", "x", "")},
		"/a?b?c=d?e":            {"/a", headers("b?c", "d?e")},
		"/a?b=?":                {"/a", headers("b", "?")},
		"/a??":                  {"/a", headers("?", "")},
		"/a?%41=%26+&+=%3D":     {"/a", headers("%41", "%26+", "+", "%3D")},
		"/a&b=c?d":              {"/a&b=c", headers("d", "")},
		"/%3Fa?b;c":             {"/%3Fa", headers("b;c", "")},
		"/a#b?c#d":              {"/a#b", headers("c#d", "")},
		"/\u00e9\xff?\xfe=\x00": {"/\u00e9\xff", headers("\xfe", "\x00")},
	} {
		if path, l := Query(target); path != want.path || !slices.Equal(l, want.l) {
			t.Errorf("%q: %q %q", target, path, l)
		}
	}
	if _, l := Query("/?" + strings.Repeat("a=b&&", 1000)); len(l) != 1000 || l[999] != (api.Header{Name: "a", Value: "b"}) {
		t.Error(len(l))
	}
}

// Put together again, path and parts are the target, but for its empty parts.
func TestQueryThereAndBack(t *testing.T) {
	var grow func(s string, n int)
	grow = func(s string, n int) {
		path, l := Query(s)
		at := strings.Index(s+"?", "?")
		if path != s[:at] {
			t.Fatalf("%q: %q", s, path)
		}
		var want []string
		for part := range strings.SplitSeq(s[min(at+1, len(s)):], "&") {
			if part != "" {
				want = append(want, part)
			}
		}
		same := func(h api.Header, part string) bool {
			return h.Name+"="+h.Value == part || h.Name == part && h.Value == "" && !strings.Contains(part, "=")
		}
		if !slices.EqualFunc(l, want, same) || slices.ContainsFunc(l, func(h api.Header) bool { return strings.ContainsAny(h.Name, "=&") }) {
			t.Fatalf("%q: %q", s, l)
		}
		for _, c := range []string{"/", "?", "&", "=", "a"} {
			if n > 0 {
				grow(s+c, n-1)
			}
		}
	}
	grow("", 7)
}

func TestPrint(t *testing.T) {
	for want, r := range map[string]api.Request{
		"  HTTP/1.1\r\n\r\n":                                                    {},
		"GET / HTTP/1.1\r\n\r\n":                                                {Method: "GET", Target: "/"},
		"GET / HTTP/1.1\r\nhost: a\r\n\r\n":                                     {Method: "GET", Target: "/", Headers: headers("host", "a")},
		"PUT /a?b HTTP/1.1\r\nhost: \r\n\r\nabc":                                {Method: "PUT", Target: "/a?b", Headers: headers("host", ""), Body: []byte("abc")},
		"P * HTTP/1.1\r\nB: 2\r\na: 1\r\nB:  3 \r\n: \r\n\r\n\r\n\x00\xff":      {Method: "P", Target: "*", Headers: headers("B", "2", "a", "1", "B", " 3 ", "", ""), Body: []byte("\r\n\x00\xff")},
		"a b\r\n \xff c HTTP/1.1\r\nx\ny: z\r\nq\r\ncontent-length: 9\r\n\r\nx": {Method: "a b\r\n", Target: "\xff c", Headers: headers("x\ny", "z\r\nq", "content-length", "9"), Body: []byte("x")},
	} {
		if got := Print(r); string(got) != want {
			t.Errorf("%q, not %q", got, want)
		}
	}
}

// 16.6

// requests are such as Parse tells.
func requests() []api.Request {
	var l []api.Request
	fields := [][]api.Header{nil, headers("a", ""), headers("x-amz-meta-a", "b  c\td", "!#$%&'*+-.^_`|~09", "\u00e9\xff:,;=\"", "accept", "", "accept", "x"), headers("connection", "x, close"), headers("connection", "keep-alive"), headers("expect", "100-continue"), headers("expect", "100-Continue", "expect", "x", "connection", "Close")}
	for _, method := range []string{"GET", "M-SEARCH", "a", strings.Repeat("Z", 16)} {
		for _, target := range []string{"/", "*", "/a/b%20c?d=e&f", "//~!" + strings.Repeat("x", 5000)} {
			for _, field := range fields {
				for _, body := range []string{"", "a", "\r\n", "0\r\n\r\n", "GET / HTTP/1.1\r\n\r\n", "\x00\xff", strings.Repeat("\r\nb", 5000)} {
					length := headers("content-length", strconv.Itoa(len(body)))
					r := api.Request{Method: method, Target: target, Body: []byte(body)}
					for _, all := range [][]api.Header{slices.Concat(headers("host", "h"), field, length), slices.Concat(length, field, headers("host", ""))} {
						r.Headers = all
						l = append(l, r)
					}
					if body == "" {
						r.Headers = slices.Concat(field, headers("host", "h"))
						l = append(l, r)
					}
				}
			}
		}
	}
	return l
}

func TestParseOfPrint(t *testing.T) {
	for _, r := range requests() {
		b := Print(r)
		for _, more := range []string{"", "\r\n", "GET /"} {
			step := Parse([]byte(string(b) + more))
			_, expects := Get(r.Headers, "expect")
			closes := slices.ContainsFunc(r.Headers, func(h api.Header) bool {
				return h.Name == "connection" && strings.HasSuffix(strings.ToLower(h.Value), "close")
			})
			if want := (Step{Kind: api.HDone, Used: len(b), Req: r, Close: closes, Continue: expects && len(r.Body) > 0}); !sameStep(step, want) {
				t.Fatalf("%.200q: %.200v, not %.200v", b, step, want)
			}
		}
		for _, cut := range []int{1, 2, len(b) / 2, len(b) - 1} {
			if step := Parse(b[:cut]); !sameStep(step, Step{Kind: api.HMore}) {
				t.Fatalf("%.200q: %v", b[:cut], step)
			}
		}
	}
}

// Print of what Parse tells of samples without chunks reads as they did.
func TestPrintOfParse(t *testing.T) {
	for _, s := range samples() {
		one := Parse([]byte(s))
		if _, coded := Get(one.Req.Headers, "transfer-encoding"); coded {
			continue
		}
		b := Print(one.Req)
		two := Parse(b)
		if one.Used, two.Used = 0, two.Used-len(b); !sameStep(one, two) {
			t.Errorf("%q: %v, not %v", s, two, one)
		}
	}
}

// read tells a request as the library reads it.
func read(t *testing.T, s string) (method, target, body string, header library.Header) {
	t.Helper()
	r, err := library.ReadRequest(bufio.NewReader(strings.NewReader(s)))
	if err != nil {
		t.Fatalf("%.200q: %v", s, err)
	}
	b, err := io.ReadAll(r.Body)
	if err != nil {
		t.Fatalf("%.200q: %v", s, err)
	}
	return r.Method, r.RequestURI, string(b), r.Header
}

func TestTheLibraryReadsTheSame(t *testing.T) {
	l := samples()
	for _, r := range requests() {
		l = append(l, string(Print(r)))
	}
	for _, s := range l {
		r := Parse([]byte(s)).Req
		method, target, body, header := read(t, s)
		if method != r.Method || target != r.Target || body != string(r.Body) {
			t.Fatalf("%.200q: %.200q %.200q %.200q", s, method, target, body)
		}
		for name, values := range header {
			if name != "Connection" && !slices.Equal(All(r.Headers, strings.ToLower(name)), values) {
				t.Fatalf("%.200q: %q %q", s, name, values)
			}
		}
	}
}

// 16.7

func TestListsAreNewMemory(t *testing.T) {
	l := append(make([]api.Header, 0, 20), headers("a", "1", "b", "2", "a", "3")...)
	before := slices.Clone(l[:cap(l)])
	one, two := All(l, "a"), All(l, "a")
	spoil(one, "x")
	if !slices.Equal(two, []string{"1", "3"}) || !slices.Equal(l[:cap(l)], before) {
		t.Error(two, l)
	}
	_, three := Query("/?a=b&c=d&e=f")
	_, four := Query("/?a=b&c=d&e=f")
	spoil(three, api.Header{Name: "x"})
	if !slices.Equal(four, headers("a", "b", "c", "d", "e", "f")) {
		t.Error(four)
	}
	spoil(l, api.Header{Name: "x"})
	if !slices.Equal(two, []string{"1", "3"}) {
		t.Error(two)
	}
}

func TestPrintIsNewMemory(t *testing.T) {
	body := append(make([]byte, 0, 100), "abc"...)
	l := append(make([]api.Header, 0, 10), headers("host", "a", "content-length", "3")...)
	r := api.Request{Method: "PUT", Target: "/", Headers: l, Body: body}
	const want = "PUT / HTTP/1.1\r\nhost: a\r\ncontent-length: 3\r\n\r\nabc"
	one, two := Print(r), Print(r)
	spoil(one, 'x')
	if string(two) != want || string(body[:cap(body)]) != "abc"+string(make([]byte, 97)) || !slices.Equal(l[:cap(l)], append(headers("host", "a", "content-length", "3"), make([]api.Header, 8)...)) {
		t.Errorf("%q %q %q", two, body, l)
	}
	spoil(body, 'x')
	spoil(l, api.Header{Name: "x"})
	if string(two) != want {
		t.Errorf("%q", two)
	}
}

func TestTheOtherCallsEnd(t *testing.T) {
	for _, piece := range []string{"a", "?", "&", "=", "\x00", "\xff", "a=b&", "\r\n", " "} {
		s := strings.Repeat(piece, 1000000/len(piece))
		ends(t, piece, func() {
			Query(s)
			Query("/?" + s)
			Get(headers(s, s), s)
			All(headers(s, s), s)
			Print(api.Request{Method: s, Target: s, Headers: headers(s, s), Body: []byte(s)})
		})
	}
}
