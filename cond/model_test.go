package cond

import (
	"bytes"
	"crypto/md5"
	"encoding/base64"
	"math"
	"regexp"
	"slices"
	"strconv"
	"strings"
	"testing"
	"time"

	"stowage/api"
)

// This file reads chapter 21 a second time, by patterns, by the library's dates and sums, and by going through bytes one by one.

const (
	preconditionFailed = 327
	notModified        = 328
	badDigest          = 329
	invalidDigest      = 330
	invalidRange       = 320
)

var (
	starForm  = regexp.MustCompile(`\A[ \t]*\*[ \t]*\z`)
	partForm  = regexp.MustCompile(`(?s)\A[ \t]*(?:W/)?(?:"(.*)"|(.*?))[ \t]*\z`)
	rangeForm = regexp.MustCompile(`\Abytes=(0|[1-9][0-9]{0,17})?-(0|[1-9][0-9]{0,17})?\z`)
)

// tagsModel is what 21.1 says.
func tagsModel(value string) ([]string, bool, bool) {
	if starForm.MatchString(value) {
		return nil, true, true
	}
	var l []string
	for _, part := range strings.Split(value, ",") {
		m := partForm.FindStringSubmatch(part)
		text := m[1] + m[2]
		if text == "" {
			return nil, false, false
		}
		l = append(l, text)
	}
	return l, false, true
}

// dateModel tells the second that a date names.
func dateModel(s string) (int, bool) {
	const form = "Mon, 02 Jan 2006 15:04:05 GMT"
	t, err := time.Parse(form, s)
	if err != nil || t.Format(form) != s || t.Year() < 1970 {
		return 0, false
	}
	return int(t.Unix()), true
}

func header(l []api.Header, name string) (string, bool) {
	i := slices.IndexFunc(l, func(h api.Header) bool { return h.Name == name })
	if i < 0 {
		return "", false
	}
	return l[i].Value, true
}

// failing tells of each of the four conditions whether it is there, but does not hold.
func failing(l []api.Header, ahead, etag string, at int, reads bool) [4]bool {
	named := func(name string) (has, there bool) {
		value, _ := header(l, ahead+name)
		tags, all, there := tagsModel(value)
		return all || slices.Contains(tags, etag), there
	}
	matches, match := named("if-match")
	twin, noneMatch := named("if-none-match")
	value, _ := header(l, ahead+"if-unmodified-since")
	old, unmodified := dateModel(value)
	value, _ = header(l, ahead+"if-modified-since")
	known, modified := dateModel(value)
	return [4]bool{
		match && !matches,
		!match && unmodified && old < at,
		noneMatch && twin,
		!noneMatch && modified && reads && known >= at,
	}
}

// askModel is what 21.2 says of Ask.
func askModel(l []api.Header, etag string, at int, reads bool) api.Errno {
	third := api.Errno(preconditionFailed)
	if reads {
		third = notModified
	}
	for i, fails := range failing(l, "", etag, at, reads) {
		if fails {
			return []api.Errno{preconditionFailed, preconditionFailed, third, notModified}[i]
		}
	}
	return 0
}

// copyModel is what 21.2 says of Copy.
func copyModel(l []api.Header, etag string, at int) api.Errno {
	if failing(l, "x-amz-copy-source-", etag, at, true) != [4]bool{} {
		return preconditionFailed
	}
	return 0
}

// rangeModel is what 21.3 says, of sizes that are small: it goes through all bytes.
func rangeModel(value string, size int) (from, n int, part bool, e api.Errno) {
	size = max(size, 0)
	m := rangeForm.FindStringSubmatch(value)
	if m == nil || m[1] == "" && m[2] == "" {
		return 0, size, false, 0
	}
	first, last := 0, math.MaxInt
	switch {
	case m[1] == "":
		n, _ := strconv.Atoi(m[2])
		first = size - n
	case m[2] == "":
		first, _ = strconv.Atoi(m[1])
	default:
		first, _ = strconv.Atoi(m[1])
		last, _ = strconv.Atoi(m[2])
	}
	if last < first {
		return 0, size, false, 0
	}
	var wanted []int
	for i := range size {
		if i >= first && i <= last {
			wanted = append(wanted, i)
		}
	}
	if len(wanted) == 0 {
		return 0, 0, false, invalidRange
	}
	return wanted[0], len(wanted), true, 0
}

// digestModel is what 21.4 says.
func digestModel(l []api.Header, data []byte) api.Errno {
	value, there := header(l, "content-md5")
	sum, err := base64.StdEncoding.Strict().DecodeString(value)
	want := md5.Sum(data)
	switch {
	case !there:
		return 0
	case err != nil || len(sum) != 16 || strings.ContainsAny(value, "\r\n"):
		return invalidDigest
	case !bytes.Equal(sum, want[:]):
		return badDigest
	}
	return 0
}

// headers makes a list of names and values.
func headers(l ...string) []api.Header {
	var h []api.Header
	for i := 0; i+1 < len(l); i += 2 {
		h = append(h, api.Header{Name: l[i], Value: l[i+1]})
	}
	return h
}

// ofCopy tells the same headers with the names that a copy asks by.
func ofCopy(l []api.Header) []api.Header {
	var h []api.Header
	for _, x := range l {
		h = append(h, api.Header{Name: "x-amz-copy-source-" + x.Name, Value: x.Value})
	}
	return h
}

// asks holds Ask and Copy against the model, each with its own headers and with the other's, and tells what Ask tells.
func asks(t *testing.T, l []api.Header, etag string, at int, reads bool) api.Errno {
	t.Helper()
	e := Ask(l, etag, at, reads)
	if want := askModel(l, etag, at, reads); e != want {
		t.Fatalf("Ask of %.300q, %q, %d, %v: %d, not %d", l, etag, at, reads, e, want)
	}
	other := ofCopy(l)
	if e, want := Copy(other, etag, at), copyModel(other, etag, at); e != want {
		t.Fatalf("Copy of %.300q, %q, %d: %d, not %d", other, etag, at, e, want)
	}
	if Copy(l, etag, at) != copyModel(l, etag, at) || Ask(other, etag, at, reads) != askModel(other, etag, at, reads) {
		t.Fatalf("%.300q is asked by another's headers", l)
	}
	return e
}

func names(t *testing.T, value string) ([]string, bool, bool) {
	t.Helper()
	l, all, ok := Tags(value)
	want, wantAll, wantOk := tagsModel(value)
	if !slices.Equal(l, want) || all != wantAll || ok != wantOk {
		t.Fatalf("Tags of %.300q: %q %v %v, not %q %v %v", value, l, all, ok, want, wantAll, wantOk)
	}
	return l, all, ok
}

// piece is what Range tells.
type piece struct {
	from, n int
	part    bool
	e       api.Errno
}

func ranges(t *testing.T, value string, size int) piece {
	t.Helper()
	var p, want piece
	p.from, p.n, p.part, p.e = Range(value, size)
	want.from, want.n, want.part, want.e = rangeModel(value, size)
	if p != want {
		t.Fatalf("Range of %.300q, %d: %v, not %v", value, size, p, want)
	}
	return p
}

func digests(t *testing.T, l []api.Header, data []byte) api.Errno {
	t.Helper()
	e := Digest(l, data)
	if want := digestModel(l, data); e != want {
		t.Fatalf("Digest of %.300q, %.100q: %d, not %d", l, data, e, want)
	}
	return e
}
