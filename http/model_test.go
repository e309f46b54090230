package http

import (
	"regexp"
	"slices"
	"strconv"
	"strings"
	"testing"

	"stowage/api"
)

// The forms of 16.2, each of a whole line.
var (
	requestForm = regexp.MustCompile("\\A([A-Za-z0-9!#$%&'*+.^_`|~-]{1,16}) ([\\x21-\\x7E]+) HTTP/([0-9]\\.[0-9])\\z")
	fieldForm   = regexp.MustCompile("\\A([A-Za-z0-9!#$%&'*+.^_`|~-]+):([^\\x00-\\x08\\x0A-\\x1F\\x7F]*)\\z")
	chunkForm   = regexp.MustCompile("\\A([0-9A-Fa-f]{1,8})(?:;[^\\x00-\\x08\\x0A-\\x1F\\x7F]*)?\\z")
	lengthForm  = regexp.MustCompile("\\A(?:0|[1-9][0-9]{0,17})\\z")
	closeForm   = regexp.MustCompile("(?i)\\A(?:.*,)?[ \t]*close[ \t]*(?:,.*)?\\z")
)

var (
	whole    = Step{Kind: 2}
	notWhole = Step{Kind: 1}
)

func wrong(e api.Errno) Step {
	return Step{Kind: 3, Fault: e, Close: true}
}

// modelFields goes over the lines of s up to the empty one, which are the lines of a head or of trailers behind count lines and size bytes; it tells them, and what stands behind.
func modelFields(s string, count, size int) (l []api.Header, rest string, kind Step) {
	for {
		line, behind, ok := strings.Cut(s, "\r\n")
		if !ok && size+len(s) <= 65536 {
			return nil, "", notWhole
		}
		size += len(line) + 2
		if !ok || size > 65536 || line != "" && count+len(l) == 100 {
			return nil, "", wrong(339)
		}
		if line == "" {
			return l, behind, whole
		}
		m := fieldForm.FindStringSubmatch(line)
		if m == nil {
			return nil, "", wrong(308)
		}
		l = append(l, api.Header{Name: strings.ToLower(m[1]), Value: strings.Trim(m[2], " \t")})
		s = behind
	}
}

// modelHead tells the request line and the headers at the beginning of s.
func modelHead(s string) (r api.Request, rest string, kind Step) {
	line, behind, ok := strings.Cut(s, "\r\n")
	if !ok && len(s) < 8194 {
		return r, "", notWhole
	}
	if len(line) > 8192 {
		return r, "", wrong(338)
	}
	m := requestForm.FindStringSubmatch(line)
	if m == nil {
		return r, "", wrong(308)
	}
	if m[3] != "1.1" {
		return r, "", wrong(340)
	}
	if m[2] != "*" && m[2][0] != '/' {
		return r, "", wrong(331)
	}
	r.Method, r.Target = m[1], m[2]
	r.Headers, rest, kind = modelFields(behind, 0, len(line)+2)
	return r, rest, kind
}

// modelChunks tells the data of the chunks at the beginning of s, behind a head of that many lines and bytes.
func modelChunks(s string, count, size int) (data, rest string, kind Step) {
	for {
		line, behind, ok := strings.Cut(s, "\r\n")
		if !ok && len(s) < 258 {
			return "", "", notWhole
		}
		m := chunkForm.FindStringSubmatch(line)
		if !ok || len(line) > 256 || m == nil {
			return "", "", wrong(308)
		}
		n, _ := strconv.ParseInt(m[1], 16, 64)
		if len(data)+int(n) > 1048576 {
			return "", "", wrong(324)
		}
		if n == 0 {
			_, rest, kind = modelFields(behind, count, size)
			return data, rest, kind
		}
		if len(behind) >= int(n)+1 && behind[n] != '\r' || len(behind) >= int(n)+2 && behind[n+1] != '\n' {
			return "", "", wrong(308)
		}
		if len(behind) < int(n)+2 {
			return "", "", notWhole
		}
		data, s = data+behind[:n], behind[n+2:]
	}
}

// modelFault tells what 16.2 says of the headers when the empty line is there.
func modelFault(values map[string][]string) api.Errno {
	te, cl := values["transfer-encoding"], values["content-length"]
	if len(values["host"]) != 1 {
		return 308
	}
	if len(te) > 0 && len(cl) > 0 {
		return 308
	}
	if len(te) > 1 {
		return 308
	}
	if len(te) == 1 && strings.ToLower(te[0]) != "chunked" {
		return 335
	}
	if len(cl) > 1 || len(cl) == 1 && !lengthForm.MatchString(cl[0]) {
		return 308
	}
	if n, _ := strconv.Atoi(strings.Join(cl, "")); n > 1048576 {
		return 324
	}
	if l := values["expect"]; len(l) > 0 && strings.ToLower(l[0]) != "100-continue" {
		return 337
	}
	return 0
}

// model is what 16.1 to 16.3 say of Parse.
func model(s string) Step {
	r, rest, kind := modelHead(s)
	if kind.Kind != whole.Kind {
		return kind
	}
	values := map[string][]string{}
	for _, h := range r.Headers {
		values[h.Name] = append(values[h.Name], h.Value)
	}
	if e := modelFault(values); e != 0 {
		return wrong(e)
	}
	data := ""
	if len(values["transfer-encoding"]) == 1 {
		data, rest, kind = modelChunks(rest, len(r.Headers), len(s)-len(rest))
		if kind.Kind != whole.Kind {
			return kind
		}
	} else if n, _ := strconv.Atoi(strings.Join(values["content-length"], "")); n > len(rest) {
		return notWhole
	} else {
		data, rest = rest[:n], rest[n:]
	}
	r.Body = []byte(data)
	closes := slices.ContainsFunc(values["connection"], closeForm.MatchString)
	return Step{Kind: 2, Used: len(s) - len(rest), Req: r, Close: closes, Continue: len(values["expect"]) > 0 && data != ""}
}

func sameRequest(a, b api.Request) bool {
	return a.Method == b.Method && a.Target == b.Target && slices.Equal(a.Headers, b.Headers) && string(a.Body) == string(b.Body)
}

func sameStep(a, b Step) bool {
	return a.Kind == b.Kind && a.Used == b.Used && sameRequest(a.Req, b.Req) && a.Fault == b.Fault && a.Close == b.Close && a.Continue == b.Continue
}

// agrees holds Parse of s against the model, and tells it.
func agrees(t *testing.T, s string) Step {
	t.Helper()
	got, want := Parse([]byte(s)), model(s)
	if !sameStep(got, want) {
		t.Fatalf("%d bytes %.200q: %.200v, not %.200v", len(s), s, got, want)
	}
	return got
}
