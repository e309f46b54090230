package reply

import (
	"regexp"
	"slices"
	"strconv"
	"strings"
	"testing"
	"time"

	"stowage/api"
)

// phrases is 17.1's list.
const phrases = `100 Continue, 200 OK, 204 No Content, 206 Partial Content, 304 Not Modified, 400 Bad Request, 403 Forbidden, 404 Not Found, 405 Method Not Allowed, 409 Conflict, 412 Precondition Failed, 414 URI Too Long, 416 Range Not Satisfiable, 417 Expectation Failed, 431 Request Header Fields Too Large, 500 Internal Server Error, 501 Not Implemented, 503 Service Unavailable, 505 HTTP Version Not Supported`

// named tells the list's phrases by their statuses.
func named() map[int]string {
	l := map[int]string{}
	for row := range strings.SplitSeq(phrases, ", ") {
		digits, phrase, _ := strings.Cut(row, " ")
		status, _ := strconv.Atoi(digits)
		l[status] = phrase
	}
	return l
}

// phraseOf is what 17.1 says of a status.
func phraseOf(status int) string {
	for s, phrase := range byStatus {
		if s == status {
			return phrase
		}
	}
	return "Unknown"
}

var byStatus = named()

// The forms of 17.3's lines. A value begins and ends with what is neither blank nor tab.
const (
	tokenForm = "[A-Za-z0-9!#$%&'*+.^_`|~-]+"
	valueForm = "(?:[^\\x00-\\x20\\x7F](?:[^\\x00-\\x08\\x0A-\\x1F\\x7F]*[^\\x00-\\x20\\x7F])?)?"
	endForm   = "(?:Connection: close\r\n)?\r\n"
)

var (
	openingForm = regexp.MustCompile("\\AHTTP/1\\.1 ([1-9][0-9]{2}) ([A-Za-z ]*)\r\nServer: stowage\r\nDate: ([A-Za-z0-9,: ]*)\r\nx-amz-request-id: " + valueForm + "\r\n")
	fieldForm   = regexp.MustCompile("\\A(" + tokenForm + "): (" + valueForm + ")\r\n")
	bareForm    = regexp.MustCompile("\\A()" + endForm)
	lengthForm  = regexp.MustCompile("\\AContent-Length: (0|[1-9][0-9]{0,17})\r\n" + endForm)
	addedForm   = regexp.MustCompile("\\A(?:Server|Date|x-amz-request-id|Content-Length|Connection)\\z")
)

func isDateForm(s string) bool {
	const form = "Mon, 02 Jan 2006 15:04:05 GMT"
	t, err := time.Parse(form, s)
	return err == nil && t.Format(form) == s && t.Year() >= 1970 && t.Year() <= 9999
}

// answer is what Parse tells.
type answer struct {
	r    api.Reply
	used int
	ok   bool
}

func sameReply(a, b api.Reply) bool {
	return a.Status == b.Status && slices.Equal(a.Headers, b.Headers) && string(a.Body) == string(b.Body)
}

func sameAnswer(a, b answer) bool {
	return sameReply(a.r, b.r) && a.used == b.used && a.ok == b.ok
}

// model is what 17.3 says of Parse.
func model(s string, head bool) answer {
	m := openingForm.FindStringSubmatch(s)
	if m == nil || !isDateForm(m[3]) {
		return answer{}
	}
	status, _ := strconv.Atoi(m[1])
	if m[2] != phraseOf(status) {
		return answer{}
	}
	r, rest := api.Reply{Status: status}, s[len(m[0]):]
	end := lengthForm
	bare := status == 100 || status == 204 || status == 304
	if bare {
		end = bareForm
	}
	for end.FindString(rest) == "" {
		f := fieldForm.FindStringSubmatch(rest)
		if f == nil || addedForm.MatchString(f[1]) {
			return answer{}
		}
		r.Headers = append(r.Headers, api.Header{Name: f[1], Value: f[2]})
		rest = rest[len(f[0]):]
	}
	e := end.FindStringSubmatch(rest)
	rest = rest[len(e[0]):]
	size, _ := strconv.Atoi(e[1])
	if bare || head {
		size = 0
	}
	if size > len(rest) {
		return answer{}
	}
	r.Body = []byte(rest[:size])
	return answer{r, len(s) - len(rest) + size, true}
}

// parse reads s, and fails the test if the bytes were changed by it.
func parse(t *testing.T, s string, head bool) answer {
	t.Helper()
	b := []byte(s)
	r, used, ok := Parse(b, head)
	if string(b) != s {
		t.Fatalf("%.200q was changed", s)
	}
	return answer{r, used, ok}
}

// agrees holds Parse of s against the model, and tells whether there is an answer.
func agrees(t *testing.T, s string, head bool) bool {
	t.Helper()
	got, want := parse(t, s, head), model(s, head)
	if !sameAnswer(got, want) {
		t.Fatalf("%d bytes %.300q, %v: %.300v, not %.300v", len(s), s, head, got, want)
	}
	return got.ok
}

// bothAgree does so for answers to HEAD and to others.
func bothAgree(t *testing.T, s string) {
	t.Helper()
	agrees(t, s, false)
	agrees(t, s, true)
}

func headers(l ...string) []api.Header {
	var told []api.Header
	for i := 0; i < len(l); i += 2 {
		told = append(told, api.Header{Name: l[i], Value: l[i+1]})
	}
	return told
}
