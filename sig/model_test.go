package sig

import (
	"bytes"
	"crypto/hmac"
	"crypto/sha256"
	"encoding/hex"
	"fmt"
	"net/url"
	"regexp"
	"slices"
	"sort"
	"strconv"
	"strings"
	"testing"
	"time"

	"stowage/api"
)

// This file reads chapter 18 a second time, by patterns and the library's sums.

var (
	authForm       = regexp.MustCompile(`(?s)\AAWS4-HMAC-SHA256 ([^,]*),([^,]*),([^,]*)\z`)
	partForm       = regexp.MustCompile(`(?s)\A[ \t]*(Credential|SignedHeaders|Signature)=(.*?)[ \t]*\z`)
	digestForm     = regexp.MustCompile(`\A[0-9a-f]{64}\z`)
	expiresForm    = regexp.MustCompile(`\A[1-9][0-9]{0,5}\z`)
	credentialForm = regexp.MustCompile(`(?s)\A([^/]+)/((\d{8})/us-east-1/s3/aws4_request)\z`)
	blanksForm     = regexp.MustCompile(`[ \t]+`)
	plainForm      = regexp.MustCompile(`\A[A-Za-z0-9._~-]\z`)
)

const six = "X-Amz-Algorithm X-Amz-Credential X-Amz-Date X-Amz-Expires X-Amz-SignedHeaders X-Amz-Signature"

func headers(l ...string) []api.Header {
	var told []api.Header
	for i := 0; i < len(l); i += 2 {
		told = append(told, api.Header{Name: l[i], Value: l[i+1]})
	}
	return told
}

func valuesOf(l []api.Header, name string) []string {
	var values []string
	for _, h := range l {
		if h.Name == name {
			values = append(values, h.Value)
		}
	}
	return values
}

// pairsOf parts a target.
func pairsOf(target string) (string, []api.Header) {
	path, query, _ := strings.Cut(target, "?")
	var l []api.Header
	for part := range strings.SplitSeq(query, "&") {
		if part != "" {
			name, value, _ := strings.Cut(part, "=")
			l = append(l, api.Header{Name: name, Value: value})
		}
	}
	return path, l
}

// escapeModel writes what is not plain by its digits.
func escapeModel(s string, slash bool) string {
	var b strings.Builder
	for _, c := range []byte(s) {
		if plainForm.Match([]byte{c}) || slash && c == '/' {
			b.WriteByte(c)
		} else {
			fmt.Fprintf(&b, "%%%02X", c)
		}
	}
	return b.String()
}

// canonicalModel is what 18.1 says of Canonical.
func canonicalModel(r api.Request, signed []string, payload string, presigned bool) (string, api.Errno) {
	path, pairs := pairsOf(r.Target)
	path, err := url.PathUnescape(path)
	if err != nil {
		return "", api.ErrInvalidURI
	}
	var query [][2]string
	for _, p := range pairs {
		if presigned && p.Name == "X-Amz-Signature" {
			continue
		}
		name, err := url.PathUnescape(p.Name)
		value, err2 := url.PathUnescape(p.Value)
		if err != nil || err2 != nil {
			return "", api.ErrInvalidURI
		}
		query = append(query, [2]string{escapeModel(name, false), escapeModel(value, false)})
	}
	sort.Slice(query, func(i, j int) bool {
		if query[i][0] == query[j][0] {
			return query[i][1] < query[j][1]
		}
		return query[i][0] < query[j][0]
	})
	var s strings.Builder
	s.WriteString(r.Method + "\n" + escapeModel(path, true) + "\n")
	for i, p := range query {
		if i > 0 {
			s.WriteString("&")
		}
		s.WriteString(p[0] + "=" + p[1])
	}
	s.WriteString("\n")
	for _, name := range signed {
		s.WriteString(name + ":")
		for i, value := range valuesOf(r.Headers, name) {
			if i > 0 {
				s.WriteString(",")
			}
			s.WriteString(strings.Trim(blanksForm.ReplaceAllString(value, " "), " "))
		}
		s.WriteString("\n")
	}
	s.WriteString("\n" + strings.Join(signed, ";") + "\n" + payload)
	return s.String(), api.OK
}

func hmacOf(key []byte, s string) []byte {
	h := hmac.New(sha256.New, key)
	h.Write([]byte(s))
	return h.Sum(nil)
}

func sumOf(s string) string {
	sum := sha256.Sum256([]byte(s))
	return hex.EncodeToString(sum[:])
}

// keyModel and signModel are what 18.2 says.
func keyModel(secret, day, region, service string) []byte {
	return hmacOf(hmacOf(hmacOf(hmacOf([]byte("AWS4"+secret), day), region), service), "aws4_request")
}

func signModel(key []byte, date, scope, canonical string) string {
	return hex.EncodeToString(hmacOf(key, "AWS4-HMAC-SHA256\n"+date+"\n"+scope+"\n"+sumOf(canonical)))
}

// timeModel is what chapter 4 says of ParseBasic.
func timeModel(s string) (int, bool) {
	const form = "20060102T150405Z"
	t, err := time.Parse(form, s)
	if err != nil || t.Format(form) != s || t.Year() < 1970 {
		return 0, false
	}
	return int(t.Unix()), true
}

// told is what the first two points of 18.3 find.
type told struct {
	presigned                                        bool
	credential, date, expires, names, signature, sum string
}

// toldOf is what 18.3 says of its first two points.
func toldOf(r api.Request) (told, api.Errno) {
	_, pairs := pairsOf(r.Target)
	auth, signatures := valuesOf(r.Headers, "authorization"), valuesOf(pairs, "X-Amz-Signature")
	switch {
	case len(auth)+len(signatures) == 0:
		return told{}, api.ErrAccessDenied
	case len(auth) > 0 && len(signatures) > 0, len(auth) > 1:
		return told{}, api.ErrInvalidRequest
	case len(auth) == 1:
		m := authForm.FindStringSubmatch(auth[0])
		if m == nil {
			return told{}, api.ErrAuthorizationHeaderMalformed
		}
		parts := map[string]string{}
		for _, s := range m[1:] {
			if p := partForm.FindStringSubmatch(s); p != nil {
				parts[p[1]] = p[2]
			}
		}
		if len(parts) != 3 || !digestForm.MatchString(parts["Signature"]) {
			return told{}, api.ErrAuthorizationHeaderMalformed
		}
		dates := valuesOf(r.Headers, "x-amz-date")
		if len(dates) != 1 {
			dates = []string{"none"}
		}
		return told{false, parts["Credential"], dates[0], "", parts["SignedHeaders"], parts["Signature"], ""}, api.OK
	}
	for _, name := range strings.Fields(six) {
		if len(valuesOf(pairs, name)) != 1 {
			return told{}, api.ErrAuthorizationHeaderMalformed
		}
	}
	var v []string
	for _, name := range strings.Fields(six) {
		value, err := url.PathUnescape(valuesOf(pairs, name)[0])
		if err != nil {
			return told{}, api.ErrInvalidURI
		}
		v = append(v, value)
	}
	expires, _ := strconv.Atoi(v[3])
	if v[0] != "AWS4-HMAC-SHA256" || !expiresForm.MatchString(v[3]) || expires > 604800 || !digestForm.MatchString(v[5]) {
		return told{}, api.ErrAuthorizationHeaderMalformed
	}
	return told{true, v[1], v[2], v[3], v[4], v[5], "UNSIGNED-PAYLOAD"}, api.OK
}

// lateModel is what the seventh point of 18.3 says. The differences are reckoned in floats, which hold any of them well enough where they are far, and just so where they are near.
func lateModel(t told, at, now int) api.Errno {
	late, expires := float64(now)-float64(at), 0.0
	if t.presigned {
		expires, _ = strconv.ParseFloat(t.expires, 64)
	}
	switch {
	case late < -900, !t.presigned && late > 900:
		return api.ErrRequestTimeTooSkewed
	case t.presigned && late > expires:
		return api.ErrAccessDenied
	}
	return api.OK
}

// namesModel is what the sixth point of 18.3 says.
func namesModel(l []api.Header, names []string) bool {
	there, signed := map[string]int{}, map[string]int{}
	for _, h := range l {
		there[h.Name]++
	}
	for i, name := range names {
		signed[name]++
		if signed[name] > 1 || there[name] == 0 || i > 0 && names[i-1] > name {
			return false
		}
	}
	for name := range there {
		if len(name) >= 6 && name[:6] == "x-amz-" && signed[name] == 0 {
			return false
		}
	}
	return signed["host"] == 1
}

// verifyModel is what 18.3 says of Verify.
func verifyModel(r api.Request, keys []api.Key, now int) (Who, api.Errno) {
	t, e := toldOf(r)
	if e != api.OK {
		return Who{}, e
	}
	at, ok := timeModel(t.date)
	if !ok {
		return Who{}, api.ErrAccessDenied
	}
	m := credentialForm.FindStringSubmatch(t.credential)
	if m == nil || m[3] != t.date[:8] {
		return Who{}, api.ErrAuthorizationHeaderMalformed
	}
	secrets := map[string]string{}
	for _, k := range slices.Backward(keys) {
		secrets[k.ID] = k.Secret
	}
	secret, ok := secrets[m[1]]
	names := strings.Split(t.names, ";")
	if !ok {
		return Who{}, api.ErrInvalidAccessKeyId
	}
	if !namesModel(r.Headers, names) {
		return Who{}, api.ErrAccessDenied
	}
	if e := lateModel(t, at, now); e != api.OK {
		return Who{}, e
	}
	if !t.presigned {
		sums := valuesOf(r.Headers, "x-amz-content-sha256")
		if len(sums) != 1 {
			return Who{}, api.ErrInvalidRequest
		}
		t.sum = sums[0]
	}
	canonical, e := canonicalModel(r, names, t.sum, t.presigned)
	if e != api.OK {
		return Who{}, e
	}
	key := keyModel(secret, m[3], "us-east-1", "s3")
	if signModel(key, t.date, m[2], canonical) != t.signature {
		return Who{}, api.ErrSignatureDoesNotMatch
	}
	if digestForm.MatchString(t.sum) && t.sum != sumOf(string(r.Body)) {
		return Who{}, api.ErrXAmzContentSHA256Mismatch
	}
	if !digestForm.MatchString(t.sum) && t.sum != "UNSIGNED-PAYLOAD" && t.sum != "STREAMING-AWS4-HMAC-SHA256-PAYLOAD" {
		return Who{}, api.ErrInvalidArgument
	}
	return Who{ID: m[1], Date: t.date, Scope: m[2], Signature: t.signature, Key: key, Payload: t.sum}, api.OK
}

func sameWho(a, b Who) bool {
	return bytes.Equal(a.Key, b.Key) && a.ID == b.ID && a.Date == b.Date && a.Scope == b.Scope && a.Signature == b.Signature && a.Payload == b.Payload
}

// verify holds Verify against the model, and tells its error.
func verify(t *testing.T, r api.Request, keys []api.Key, now int) api.Errno {
	t.Helper()
	w, e := Verify(r, keys, now)
	if want, f := verifyModel(r, keys, now); e != f || !sameWho(w, want) {
		t.Fatalf("%.2000q at %d: %v %d, not %v %d", r, now, w, e, want, f)
	}
	if e != api.OK && !sameWho(w, Who{}) {
		t.Fatalf("%.2000q at %d: %v beside %d", r, now, w, e)
	}
	return e
}

// letter is a request on its way to be signed, part by part, so that each part can be made wrong by itself and the signature be right all the same.
type letter struct {
	r         api.Request // without what signs it
	presigned bool
	keys      []api.Key
	now       int
	secret    string

	algorithm, credential, expires string
	dates, payloads                []string
	names                          func(names []string) []string // what is made of the names that should be signed
	parts                          func(parts []string) []string // what is made of the header's parts, or of the six pairs
	signature                      func(s string) string         // what is made of the right signature
	last                           func(r *api.Request)          // what becomes of the request when it is signed
}

const (
	base     = 1369353600 // 2013-05-24, midnight
	baseDate = "20130524T000000Z"
	scope    = "20130524/us-east-1/s3/aws4_request"
)

// newLetter is one to which nothing is wrong.
func newLetter(presigned bool) *letter {
	return &letter{
		r: api.Request{
			Method:  "PUT",
			Target:  "/b/a%20b?x=1&a=%7e&a",
			Headers: headers("host", "s3.local", "x-amz-meta-b", " v  w\t", "content-type", "t", "x-amz-meta-b", "u"),
			Body:    []byte("data"),
		},
		presigned: presigned,
		keys:      []api.Key{{ID: "A", Secret: "first"}, {ID: "K", Secret: "one"}, {ID: "K", Secret: "other"}},
		now:       base,
		secret:    "one",
		algorithm: "AWS4-HMAC-SHA256", credential: "K/" + scope, expires: "60",
		dates: []string{baseDate}, payloads: []string{sumOf("data")},
		names:     func(names []string) []string { return names },
		parts:     func(parts []string) []string { return parts },
		signature: func(s string) string { return s },
		last:      func(*api.Request) {},
	}
}

// sign tells the signature.
func (l *letter) sign(r api.Request, payload string) string {
	canonical, _ := canonicalModel(r, l.signed(r), payload, l.presigned)
	date := strings.Join(l.dates, "")
	_, scope, _ := strings.Cut(l.credential, "/")
	day, _, _ := strings.Cut(scope, "/")
	return l.signature(signModel(keyModel(l.secret, day, "us-east-1", "s3"), date, scope, canonical))
}

// signed tells the names that are signed.
func (l *letter) signed(r api.Request) []string {
	var names []string
	for _, h := range r.Headers {
		names = append(names, h.Name)
	}
	slices.Sort(names)
	return l.names(slices.Compact(names))
}

// sealed is the request, signed.
func (l *letter) sealed() api.Request {
	r := l.r
	r.Headers = slices.Clone(r.Headers)
	if l.presigned {
		l.intoTarget(&r)
	} else {
		l.intoHeaders(&r)
	}
	l.last(&r)
	return r
}

func (l *letter) intoHeaders(r *api.Request) {
	for _, date := range l.dates {
		r.Headers = append(r.Headers, headers("x-amz-date", date)...)
	}
	for _, payload := range l.payloads {
		r.Headers = append(r.Headers, headers("x-amz-content-sha256", payload)...)
	}
	parts := []string{"Credential=" + l.credential, "SignedHeaders=" + strings.Join(l.signed(*r), ";"), "Signature=" + l.sign(*r, strings.Join(l.payloads, ""))}
	r.Headers = append(r.Headers, headers("authorization", l.algorithm+" "+strings.Join(l.parts(parts), ","))...)
}

func (l *letter) intoTarget(r *api.Request) {
	pair := func(name, value string) string { return name + "=" + escapeModel(value, false) }
	parts := []string{pair("X-Amz-Algorithm", l.algorithm), pair("X-Amz-Credential", l.credential), pair("X-Amz-Date", strings.Join(l.dates, "")), pair("X-Amz-Expires", l.expires), pair("X-Amz-SignedHeaders", strings.Join(l.signed(*r), ";")), pair("X-Amz-Signature", "")}
	target := r.Target
	r.Target = target + "&" + strings.Join(l.parts(slices.Clone(parts)), "&")
	parts[5] += l.sign(*r, "UNSIGNED-PAYLOAD")
	r.Target = target + "&" + strings.Join(l.parts(parts), "&")
}
