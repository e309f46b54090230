package sig

import (
	"math"
	"slices"
	"strings"
	"testing"

	"stowage/api"
)

// fault is something that is wrong at one of the points of 18.3.
type fault struct {
	point int
	name  string
	want  api.Errno
	do    func(l *letter)
}

func wrong(point int, name string, want api.Errno, do func(l *letter)) fault {
	return fault{point, name, want, do}
}

// replaced tells faults in which a text of the request's last parts is replaced by another one.
func replaced(point int, want api.Errno, old string, with ...string) []fault {
	var l []fault
	for _, s := range with {
		l = append(l, fault{point, old + " as " + s, want, func(l *letter) {
			l.parts = func(parts []string) []string {
				all := strings.Replace(strings.Join(parts, "\x00"), old, s, 1)
				return strings.Split(all, "\x00")
			}
		}})
	}
	return l
}

// digestsThatAreNone are made of one that is.
func digestsThatAreNone(s string) []string {
	return []string{
		"", s[:63], s + "0", s[:62], s + "00", s[:32], s + s, "g" + s[1:], s[:63] + "g", "A" + s[1:], s[:63] + "F", s[:30] + "E" + s[31:], strings.ToUpper("abcdef" + s[6:]),
		"/" + s[1:], ":" + s[1:], "`" + s[1:], "@" + s[1:], s[:63] + " ", " " + s[:63], s[:20] + "\t" + s[21:], "\xff" + s[1:], "0x" + s[2:], s[:63] + "\n", s + "\n",
	}
}

// faultsOfBoth are the faults of both ways of signing.
func faultsOfBoth() []fault {
	names := func(name string, turn func(names []string) []string) fault {
		return fault{6, name, api.ErrAccessDenied, func(l *letter) { l.names = turn }}
	}
	l := []fault{
		wrong(1, "both", api.ErrInvalidRequest, func(l *letter) {
			l.last = func(r *api.Request) {
				r.Target += "&X-Amz-Signature="
				r.Headers = append(r.Headers, headers("authorization", "")...)
			}
		}),
		wrong(1, "neither", api.ErrAccessDenied, func(l *letter) {
			l.last = func(r *api.Request) {
				r.Target = strings.ReplaceAll(r.Target, "X-Amz-Signature", "X-Amz-Signatur%65")
				r.Headers = slices.DeleteFunc(r.Headers, isAuthorization)
			}
		}),
		wrong(1, "two headers", api.ErrInvalidRequest, func(l *letter) {
			l.last = func(r *api.Request) {
				r.Headers = append(r.Headers, headers("authorization", "a", "authorization", "a")...)
			}
		}),
		wrong(5, "no keys", api.ErrInvalidAccessKeyId, func(l *letter) { l.keys = nil }),
		wrong(5, "no such key", api.ErrInvalidAccessKeyId, func(l *letter) {
			l.keys = []api.Key{{ID: "k", Secret: "one"}, {ID: "", Secret: "one"}, {ID: "KK", Secret: "one"}, {ID: "K/", Secret: "one"}, {ID: "K ", Secret: "one"}}
		}),
		names("none", func([]string) []string { return nil }),
		names("empty", func(names []string) []string { return append([]string{""}, names...) }),
		names("falling", func(names []string) []string { slices.Reverse(names); return names }),
		names("two swapped", func(names []string) []string { names[0], names[1] = names[1], names[0]; return names }),
		names("the last first", func(names []string) []string {
			return slices.Concat(names[len(names)-1:], names[:len(names)-1])
		}),
		names("the first twice", func(names []string) []string { return slices.Insert(names, 0, names[0]) }),
		names("the last twice", func(names []string) []string { return append(names, names[len(names)-1]) }),
		names("host twice", func(names []string) []string {
			return slices.Insert(names, slices.Index(names, "host"), "host")
		}),
		names("without host", func(names []string) []string {
			return slices.DeleteFunc(names, func(name string) bool { return name == "host" })
		}),
		names("Host", func(names []string) []string {
			return append([]string{"Host"}, slices.DeleteFunc(names, func(name string) bool { return name == "host" })...)
		}),
		names("one behind all that is none", func(names []string) []string { return append(names, "z") }),
		names("one ahead of all that is none", func(names []string) []string { return slices.Insert(names, 0, "a") }),
		names("x-amz-meta-b not signed", func(names []string) []string {
			return slices.DeleteFunc(names, func(name string) bool { return name == "x-amz-meta-b" })
		}),
		wrong(7, "901 early", api.ErrRequestTimeTooSkewed, func(l *letter) { l.now = base - 901 }),
		wrong(7, "the least int", api.ErrRequestTimeTooSkewed, func(l *letter) { l.now = math.MinInt }),
	}
	return slices.Concat(l, faultsOfTexts(), faultsOfSignatures())
}

func isAuthorization(h api.Header) bool {
	return h.Name == "authorization"
}

// faultsOfTexts are those of dates and credentials.
func faultsOfTexts() []fault {
	date := func(s string) fault {
		return fault{3, "date " + s, api.ErrAccessDenied, func(l *letter) { l.dates = []string{s} }}
	}
	credential := func(s string) fault {
		return fault{4, "credential " + s, api.ErrAuthorizationHeaderMalformed, func(l *letter) { l.credential = s }}
	}
	var l []fault
	for _, s := range []string{"", "now", "20130524T000000", "20130524T000000z", "20130524t000000Z", "20130524T000000Z ", " 20130524T000000Z", "20130230T000000Z", "20130524T240000Z", "20130524T000060Z", "19691231T235959Z", "2013-05-24T00:00:00.000Z", "Fri, 24 May 2013 00:00:00 GMT", "20130524", "1369353600", "20130524T000000Z\n", "\xff"} {
		l = append(l, date(s))
	}
	for _, s := range []string{
		"", "K", "/", "K/", "/" + scope, scope, "K" + scope, "K//" + scope, "K/x/" + scope, "/K/" + scope, "K/" + scope + "/", "K/ " + scope,
		"K/20130523/us-east-1/s3/aws4_request", "K/20130525/us-east-1/s3/aws4_request", "K/20130524T000000Z/us-east-1/s3/aws4_request", "K//us-east-1/s3/aws4_request", "K/2013524/us-east-1/s3/aws4_request",
		"K/20130524/us-east-2/s3/aws4_request", "K/20130524/US-EAST-1/s3/aws4_request", "K/20130524//s3/aws4_request", "K/20130524/us-east-1/iam/aws4_request", "K/20130524/us-east-1/S3/aws4_request", "K/20130524/us-east-1//aws4_request", "K/20130524/us-east-1/s3/aws4", "K/20130524/us-east-1/s3/aws4_requests", "K/20130524/us-east-1/s3/", "K/20130524/us-east-1/s3", "K/20130524/us-east-1", "K/20130524", "K/20130524/us-east-1/aws4_request", "K/us-east-1/20130524/s3/aws4_request", "K/20130524/us-east-1/s3/AWS4_REQUEST", "K/x/20130524/us-east-1/s3/aws4_request", "A/B/" + scope,
	} {
		l = append(l, credential(s))
	}
	return l
}

// faultsOfSignatures are those of what is signed, and of signatures that have the right form.
func faultsOfSignatures() []fault {
	return []fault{
		{9, "another key's", api.ErrSignatureDoesNotMatch, func(l *letter) { l.secret = "other" }},
		{9, "the first key's", api.ErrSignatureDoesNotMatch, func(l *letter) { l.secret = "first" }},
		{9, "another signature", api.ErrSignatureDoesNotMatch, func(l *letter) { l.signature = func(string) string { return sumOf("x") } }},
		{9, "one digit of it", api.ErrSignatureDoesNotMatch, func(l *letter) {
			l.signature = func(s string) string { return strings.Map(turnZeros, s[:1]) + s[1:] }
		}},
		{9, "no path", api.ErrInvalidURI, func(l *letter) { l.r.Target = "/%?a" }},
		{9, "no name", api.ErrInvalidURI, func(l *letter) { l.r.Target = "/?a%2=1" }},
		{9, "no value", api.ErrInvalidURI, func(l *letter) { l.r.Target = "/?a=%4g" }},
		{9, "another method", api.ErrSignatureDoesNotMatch, func(l *letter) { l.last = func(r *api.Request) { r.Method = "GET" } }},
		{9, "another target", api.ErrSignatureDoesNotMatch, func(l *letter) { l.last = func(r *api.Request) { r.Target += "&y" } }},
		{9, "another header", api.ErrSignatureDoesNotMatch, func(l *letter) {
			l.last = func(r *api.Request) { r.Headers = append(r.Headers, headers("host", "h")...) }
		}},
	}
}

// turnZeros makes another digit of each.
func turnZeros(c rune) rune {
	if c == '0' {
		return '1'
	}
	return '0'
}

// headerFaults are all that is tried of requests that are signed in a header.
func headerFaults() []fault {
	l := faultsOfBoth()
	l = append(l, []fault{
		wrong(3, "no date", api.ErrAccessDenied, func(l *letter) { l.dates = nil }),
		wrong(3, "two dates", api.ErrAccessDenied, func(l *letter) { l.dates = []string{baseDate, baseDate} }),
		wrong(3, "the date named otherwise", api.ErrAccessDenied, func(l *letter) { l.r.Headers, l.dates = append(l.r.Headers, headers("date", baseDate)...), nil }),
		wrong(6, "x-amz-date not signed", api.ErrAccessDenied, func(l *letter) {
			l.names = func(names []string) []string {
				return slices.DeleteFunc(names, func(name string) bool { return name == "x-amz-date" })
			}
		}),
		wrong(6, "x-amz-content-sha256 not signed", api.ErrAccessDenied, func(l *letter) {
			l.payloads = []string{sumOf("data")} // so that it is there to be signed, whatever is wrong with it at a later point
			l.names = func(names []string) []string {
				return slices.DeleteFunc(names, func(name string) bool { return name == "x-amz-content-sha256" })
			}
		}),
		wrong(7, "901 late", api.ErrRequestTimeTooSkewed, func(l *letter) { l.now = base + 901 }),
		wrong(7, "the greatest int", api.ErrRequestTimeTooSkewed, func(l *letter) { l.now = math.MaxInt }),
		wrong(8, "no payload", api.ErrInvalidRequest, func(l *letter) { l.payloads = nil }),
		wrong(8, "two payloads", api.ErrInvalidRequest, func(l *letter) { l.payloads = []string{sumOf("data"), sumOf("data")} }),
		wrong(10, "another body", api.ErrXAmzContentSHA256Mismatch, func(l *letter) { l.r.Body = []byte("datA") }),
		wrong(10, "no body", api.ErrXAmzContentSHA256Mismatch, func(l *letter) { l.r.Body = nil }),
		wrong(10, "another sum", api.ErrXAmzContentSHA256Mismatch, func(l *letter) { l.payloads = []string{sumOf("")} }),
	}...)
	for _, s := range append(digestsThatAreNone(sumOf("data")), "x", "unsigned-payload", "UNSIGNED-PAYLOAD ", "UNSIGNED-PAYLOADS", "UNSIGNED", "STREAMING-AWS4-HMAC-SHA256-PAYLOAD-TRAILER", "STREAMING-UNSIGNED-PAYLOAD-TRAILER", "STREAMING-AWS4-HMAC-SHA256", strings.ToUpper(sumOf("data")), "data") {
		l = append(l, wrong(10, "payload "+s, api.ErrInvalidArgument, func(l *letter) { l.payloads = []string{s} }))
	}
	return append(l, malformedHeaders()...)
}

// malformedHeaders are the faults of the second point.
func malformedHeaders() []fault {
	const malformed = api.ErrAuthorizationHeaderMalformed
	var l []fault
	for _, s := range digestsThatAreNone(sumOf("x")) {
		if strings.Trim(s, " \t") == s || len(strings.Trim(s, " \t")) < 64 {
			l = append(l, wrong(2, "signature "+s, malformed, func(l *letter) { l.signature = func(string) string { return s } }))
		}
	}
	for _, s := range []string{"", "AWS4-HMAC-SHA256,", "AWS4-HMAC-SHA256\t", "aws4-hmac-sha256", " AWS4-HMAC-SHA256", "AWS4-HMAC-SHA25", "AWS4-HMAC-SHA512", "AWS", "Basic", "AWS4-HMAC-SHA256 x", "AWS4-HMAC-SHA256 x,", "AWS4-HMAC-SHA256 ,"} {
		l = append(l, wrong(2, "algorithm "+s, malformed, func(l *letter) { l.algorithm = s }))
	}
	l = append(l, wrong(2, "the whole without a blank", malformed, func(l *letter) {
		l.last = func(r *api.Request) { r.Headers[len(r.Headers)-1].Value = "AWS4-HMAC-SHA256" }
	}), wrong(2, "no value", malformed, func(l *letter) {
		l.last = func(r *api.Request) { r.Headers[len(r.Headers)-1].Value = "" }
	}))
	for i, name := range []string{"Credential=", "SignedHeaders=", "Signature="} {
		l = append(l, replaced(2, malformed, name, "", "x"+name, name[:len(name)-1], name[:len(name)-1]+":", name[:len(name)-1]+" =", strings.ToLower(name), strings.ToUpper(name), "X-Amz-"+name)...)
		turn := func(what string, do func(parts []string) []string) {
			l = append(l, wrong(2, name+" "+what, malformed, func(l *letter) { l.parts = do }))
		}
		turn("missing", func(parts []string) []string { return slices.Delete(parts, i, i+1) })
		turn("doubled", func(parts []string) []string { return slices.Insert(parts, i, parts[i]) })
		turn("empty", func(parts []string) []string { parts[i] = ""; return parts })
		turn("in place of the next", func(parts []string) []string { parts[(i+1)%3] = parts[i]; return parts })
		turn("in place of the one ahead", func(parts []string) []string { parts[(i+2)%3] = parts[i]; return parts })
		turn("with something behind", func(parts []string) []string { return slices.Insert(parts, i+1, "x") })
		turn("with nothing ahead", func(parts []string) []string { return slices.Insert(parts, i, "") })
		turn("alone", func(parts []string) []string { return parts[i : i+1] })
	}
	return l
}

// targetFaults are all that is tried of requests that are signed in their target.
func targetFaults() []fault {
	const malformed = api.ErrAuthorizationHeaderMalformed
	l := faultsOfBoth()
	l = append(l, []fault{
		wrong(4, "a blank behind the credential", malformed, func(l *letter) { l.credential += " " }), // in a header it is trimmed
		wrong(7, "passed by one", api.ErrAccessDenied, func(l *letter) { l.now = base + 61 }),
		wrong(7, "the greatest int", api.ErrAccessDenied, func(l *letter) { l.now = math.MaxInt }),
	}...)
	for _, s := range []string{"", "0", "604801", "-1", "+1", "01", "00", "1 ", " 1", "1.0", "1e3", "x", "0x10", "99999999", "999999999999999999", "9223372036854775808", "18446744073709551617", "\u0661"} {
		l = append(l, wrong(2, "expires "+s, malformed, func(l *letter) { l.expires = s }))
	}
	for _, s := range []string{"", "aws4-hmac-sha256", "AWS4-HMAC-SHA256 ", " AWS4-HMAC-SHA256", "AWS4-HMAC-SHA25", "AWS4-HMAC-SHA512", "AWS4-ECDSA-P256-SHA256"} {
		l = append(l, wrong(2, "algorithm "+s, malformed, func(l *letter) { l.algorithm = s }))
	}
	for _, s := range digestsThatAreNone(sumOf("x")) {
		l = append(l, wrong(2, "signature "+s, malformed, func(l *letter) { l.signature = func(string) string { return escapeModel(s, false) } }))
	}
	for i, name := range strings.Fields(six) {
		bad := []string{"%", "%4", "%g1", "%1g"}
		for _, s := range bad {
			l = append(l, wrong(2, name+" "+s, api.ErrInvalidURI, func(l *letter) {
				l.parts = func(parts []string) []string { parts[i] = name + "=" + s; return parts }
			}))
		}
		turn := func(what string, do func(parts []string) []string) {
			l = append(l, wrong(2, name+" "+what, malformed, func(l *letter) { l.parts = do }))
		}
		turn("doubled", func(parts []string) []string { return slices.Insert(parts, i, parts[i]) })
		turn("doubled at the end", func(parts []string) []string { return append(parts, parts[i]) })
		turn("doubled, empty", func(parts []string) []string { return append(parts, name) })
		turn("doubled, without Unescape", func(parts []string) []string { return append(parts, name+"=%") })
		if i == 5 {
			continue // without it nothing tells of a signature
		}
		turn("missing", func(parts []string) []string { return slices.Delete(parts, i, i+1) })
		turn("escaped", func(parts []string) []string { parts[i] = strings.Replace(parts[i], "Amz", "%41mz", 1); return parts })
		turn("small", func(parts []string) []string { parts[i] = "x-amz" + parts[i][5:]; return parts })
		turn("in place of the next", func(parts []string) []string { parts[i] = parts[(i+1)%5]; return parts })
		turn("missing, and one without Unescape", func(parts []string) []string {
			parts[(i+1)%5] = parts[(i+1)%5] + "%"
			return slices.Delete(parts, i, i+1)
		})
	}
	// Values are asked when all of them have an Unescape.
	l = append(l, wrong(2, "a value without Unescape behind wrong ones", api.ErrInvalidURI, func(l *letter) {
		l.algorithm, l.expires = "x", "0"
		l.parts = func(parts []string) []string { parts[4] += "%"; return parts }
	}))
	return l
}

func faultsOf(presigned bool) []fault {
	if presigned {
		return targetFaults()
	}
	return headerFaults()
}

// 18.3: each fault by itself.
func TestVerifyAtEachPoint(t *testing.T) {
	for _, presigned := range []bool{false, true} {
		l := newLetter(presigned)
		if e := verify(t, l.sealed(), l.keys, l.now); e != api.OK {
			t.Fatal(presigned, e)
		}
		points := map[int]int{}
		for _, f := range faultsOf(presigned) {
			l := newLetter(presigned)
			f.do(l)
			if e := verify(t, l.sealed(), l.keys, l.now); e != f.want {
				t.Errorf("%v, %d %s: %d, not %d", presigned, f.point, f.name, e, f.want)
			}
			points[f.point]++
		}
		for point := 1; point <= 10; point++ {
			// A request that is signed in its target has no payload that could be wrong.
			if points[point] == 0 && !(presigned && (point == 8 || point == 10)) {
				t.Error(presigned, point)
			}
		}
	}
}

// 18.3: two faults at different points: the first counts.
func TestVerifyWhereTwoMeet(t *testing.T) {
	for _, presigned := range []bool{false, true} {
		all := faultsOf(presigned)
		for _, f := range all {
			for _, g := range all {
				if f.point >= g.point {
					continue
				}
				l := newLetter(presigned)
				g.do(l)
				f.do(l) // what both of them set is as f sets it
				if e := verify(t, l.sealed(), l.keys, l.now); e != f.want {
					t.Errorf("%v, %d %s and %d %s: %d, not %d", presigned, f.point, f.name, g.point, g.name, e, f.want)
				}
			}
		}
	}
}
