package sig

import (
	"encoding/hex"
	"math/rand"
	"slices"
	"strings"
	"testing"

	"stowage/api"
)

// 18.1

func lines(l ...string) string {
	return strings.Join(l, "\n")
}

// canonical holds Canonical against the model, and tells what it tells.
func canonical(t *testing.T, r api.Request, signed []string, payload string, presigned bool) (string, api.Errno) {
	t.Helper()
	s, e := Canonical(r, signed, payload, presigned)
	if want, f := canonicalModel(r, signed, payload, presigned); s != want || e != f {
		t.Fatalf("%.500q %.200q %.200q %v: %.500q %d, not %.500q %d", r, signed, payload, presigned, s, e, want, f)
	}
	return s, e
}

func TestCanonical(t *testing.T) {
	l := headers("host", "h", "a", " v  w\t\tx ", "b", "", "a", "u", "A", "capital", "c", "1,2", "d", " \t ", "d", "", "e", "\u00e9  \xff")
	for _, c := range []struct {
		target  string
		signed  []string
		payload string
		want    string
	}{
		{"/", nil, "", lines("M", "/", "", "", "", "")},
		{"/", []string{}, "P", lines("M", "/", "", "", "", "P")},
		{"/?", nil, "P", lines("M", "/", "", "", "", "P")},
		{"/?&&", nil, "P", lines("M", "/", "", "", "", "P")},
		{"*", nil, "P", lines("M", "%2A", "", "", "", "P")},
		{"", nil, "P", lines("M", "", "", "", "", "P")},
		{"?a", nil, "P", lines("M", "", "a=", "", "", "P")},
		// The path.
		{"/a b/%2f%2F//%7e~%41+*\u00e9%00", nil, "P", lines("M", "/a%20b/////~~A%2B%2A%C3%A9%00", "", "", "", "P")},
		{"/./../a/", nil, "P", lines("M", "/./../a/", "", "", "", "P")},
		{"/a&b=c;d:e@", nil, "P", lines("M", "/a%26b%3Dc%3Bd%3Ae%40", "", "", "", "P")},
		{"/%25%32%35", nil, "P", lines("M", "/%2525", "", "", "", "P")},
		// The query.
		{"/?a", nil, "P", lines("M", "/", "a=", "", "", "P")},
		{"/?a=", nil, "P", lines("M", "/", "a=", "", "", "P")},
		{"/?=a", nil, "P", lines("M", "/", "=a", "", "", "P")},
		{"/?=", nil, "P", lines("M", "/", "=", "", "", "P")},
		{"/?a=b=c=", nil, "P", lines("M", "/", "a=b%3Dc%3D", "", "", "P")},
		{"/?a?b", nil, "P", lines("M", "/", "a%3Fb=", "", "", "P")},
		{"/?b=1&a=2&&c", nil, "P", lines("M", "/", "a=2&b=1&c=", "", "", "P")},
		{"/?a=2&a=10&a=1&a=&a", nil, "P", lines("M", "/", "a=&a=&a=1&a=10&a=2", "", "", "P")},
		{"/?b=1&a=9&b=0&a=10", nil, "P", lines("M", "/", "a=10&a=9&b=0&b=1", "", "", "P")},
		{"/?a/b=c/d+e%20f", nil, "P", lines("M", "/", "a%2Fb=c%2Fd%2Be%20f", "", "", "P")},
		// Texts of whole pairs would stand in another order: a name that is another one's beginning stands ahead of it.
		{"/?a-=1&a=2&a.=3&a0=4", nil, "P", lines("M", "/", "a=2&a-=1&a.=3&a0=4", "", "", "P")},
		{"/?a%21=1&a=2", nil, "P", lines("M", "/", "a=2&a%21=1", "", "", "P")},
		// It is the escaped texts that are sorted.
		{"/?~=1&%C3%A9=2&Z=3&[=4&a=5&-=6", nil, "P", lines("M", "/", "%5B=4&%C3%A9=2&-=6&Z=3&a=5&~=1", "", "", "P")},
		{"/?a=%7e&a=%5b&a=z", nil, "P", lines("M", "/", "a=%5B&a=z&a=~", "", "", "P")},
		{"/?%61=2&a=1&A=3", nil, "P", lines("M", "/", "A=3&a=1&a=2", "", "", "P")},
		// The headers.
		{"/", []string{"host"}, "P", lines("M", "/", "", "host:h", "", "host", "P")},
		{"/", []string{"host", "a"}, "P", lines("M", "/", "", "host:h", "a:v w x,u", "", "host;a", "P")},
		{"/", []string{"a", "b", "host"}, "P", lines("M", "/", "", "a:v w x,u", "b:", "host:h", "", "a;b;host", "P")},
		{"/", []string{"A", "c", "d", "e"}, "P", lines("M", "/", "", "A:capital", "c:1,2", "d:,", "e:\u00e9 \xff", "", "A;c;d;e", "P")},
		{"/", []string{"none", "host", "host", ""}, "P", lines("M", "/", "", "none:", "host:h", "host:h", ":", "", "none;host;host;", "P")},
		{"/", []string{"x\ny", ";"}, "p\nq ", lines("M", "/", "", "x", "y:", ";:", "", "x", "y;;", "p", "q ")},
	} {
		for _, presigned := range []bool{false, true} {
			r := api.Request{Method: "M", Target: c.target, Headers: l, Body: []byte("body")}
			s, e := canonical(t, r, c.signed, c.payload, presigned)
			if s != c.want || e != api.OK {
				t.Errorf("%q: %q %d, not %q", c.target, s, e, c.want)
			}
		}
	}
}

func TestCanonicalOfOthers(t *testing.T) {
	for _, method := range []string{"", "GET", "get", "P\nQ", "\xff", strings.Repeat("M", 1000)} {
		s, e := canonical(t, api.Request{Method: method, Target: "/"}, nil, "", false)
		if s != method+"\n/\n\n\n\n" || e != api.OK {
			t.Errorf("%q: %q %d", method, s, e)
		}
	}
	if s, e := canonical(t, api.Request{}, nil, "", true); s != "\n\n\n\n\n" || e != api.OK {
		t.Errorf("%q %d", s, e)
	}
}

// Presigned leaves just those pairs out that are named as they stand.
func TestCanonicalPresigned(t *testing.T) {
	for _, c := range []struct{ query, with, without string }{
		{"X-Amz-Signature=x", "X-Amz-Signature=x", ""},
		{"X-Amz-Signature", "X-Amz-Signature=", ""},
		{"b=1&X-Amz-Signature=x&a=2&X-Amz-Signature=y", "X-Amz-Signature=x&X-Amz-Signature=y&a=2&b=1", "a=2&b=1"},
		{"X-Amz-Signatur%65=x&a", "X-Amz-Signature=x&a=", "X-Amz-Signature=x&a="},
		{"x-amz-signature=x&X-Amz-Signature2=y&a=X-Amz-Signature", "X-Amz-Signature2=y&a=X-Amz-Signature&x-amz-signature=x", "X-Amz-Signature2=y&a=X-Amz-Signature&x-amz-signature=x"},
		{"X-Amz-Algorithm=1&X-Amz-Date=2&X-Amz-Signature=3", "X-Amz-Algorithm=1&X-Amz-Date=2&X-Amz-Signature=3", "X-Amz-Algorithm=1&X-Amz-Date=2"},
	} {
		r := api.Request{Method: "M", Target: "/?" + c.query}
		if s, _ := canonical(t, r, nil, "P", false); s != lines("M", "/", c.with, "", "", "P") {
			t.Errorf("%q: %q", c.query, s)
		}
		if s, _ := canonical(t, r, nil, "P", true); s != lines("M", "/", c.without, "", "", "P") {
			t.Errorf("%q: %q", c.query, s)
		}
	}
}

func TestCanonicalWithoutUnescape(t *testing.T) {
	for _, bad := range []string{"%", "%2", "%g0", "%0g", "%%", "a%", "%20%", "%2%20", "% 0", "%\u00e9"} {
		for _, target := range []string{"/" + bad, bad, "/?" + bad, "/?" + bad + "=1", "/?a=" + bad, "/?a=1&" + bad + "=2", "/?a=1&b=" + bad, "/" + bad + "?" + bad} {
			for _, presigned := range []bool{false, true} {
				s, e := canonical(t, api.Request{Method: "M", Target: target, Headers: headers("host", "h")}, []string{"host"}, "P", presigned)
				if s != "" || e != api.ErrInvalidURI {
					t.Errorf("%q: %q %d", target, s, e)
				}
			}
		}
		// What is left out need not have one.
		r := api.Request{Method: "M", Target: "/?a&X-Amz-Signature=" + bad}
		if s, e := canonical(t, r, nil, "P", true); s != lines("M", "/", "a=", "", "", "P") || e != api.OK {
			t.Errorf("%q: %q %d", bad, s, e)
		}
		if s, e := canonical(t, r, nil, "P", false); s != "" || e != api.ErrInvalidURI {
			t.Errorf("%q: %q %d", bad, s, e)
		}
		// Of headers, names and payloads no Unescape is asked.
		if _, e := canonical(t, api.Request{Method: bad, Target: "/", Headers: headers(bad, bad)}, []string{bad}, bad, false); e != api.OK {
			t.Errorf("%q: %d", bad, e)
		}
	}
}

// textOf puts pieces together.
func textOf(rnd *rand.Rand, most int, pieces ...string) string {
	var s strings.Builder
	for range rnd.Intn(most + 1) {
		s.WriteString(pieces[rnd.Intn(len(pieces))])
	}
	return s.String()
}

func TestCanonicalOfNoise(t *testing.T) {
	rnd := rand.New(rand.NewSource(181))
	good := 0
	for range 20000 {
		var l []api.Header
		for range rnd.Intn(5) {
			l = append(l, headers(textOf(rnd, 2, "a", "b", "-"), textOf(rnd, 5, " ", "\t", "v", ",", "  "))...)
		}
		var signed []string
		for range rnd.Intn(4) {
			signed = append(signed, textOf(rnd, 2, "a", "b", "-"))
		}
		target := textOf(rnd, 12, "/", "?", "&", "&", "=", "a", "b", "%2f", "%7E", "%41", "+", "-", "~", "X-Amz-Signature", "\u00e9", "a=1&a=0")
		if rnd.Intn(10) == 0 {
			target += "%"
		}
		_, e := canonical(t, api.Request{Method: "GET", Target: target, Headers: l}, signed, textOf(rnd, 3, "x", "\n"), rnd.Intn(2) == 0)
		if e == api.OK {
			good++
		}
	}
	if good < 15000 {
		t.Error(good)
	}
}

// Each byte of a path, a name and a value is told as Escape tells it, be it spelt as it is or escaped.
func TestCanonicalOfEachByte(t *testing.T) {
	for c := range 256 {
		digits := "%" + hex.EncodeToString([]byte{byte(c)})
		r := api.Request{Method: "M", Target: "/" + digits + "?" + digits + "=" + digits}
		want := escapeModel(string([]byte{byte(c)}), false)
		path := want
		if c == '/' {
			path = "/"
		}
		if s, e := canonical(t, r, nil, "", false); s != lines("M", "/"+path, want+"="+want, "", "", "") || e != api.OK {
			t.Errorf("%d: %q %d", c, s, e)
		}
		if strings.ContainsRune("%?&=", rune(c)) {
			continue
		}
		plain := string([]byte{byte(c)})
		other, e := canonical(t, api.Request{Method: "M", Target: "/" + plain + "?" + plain + "=" + plain}, nil, "", false)
		if s, _ := Canonical(r, nil, "", false); s != other || e != api.OK {
			t.Errorf("%d: %q, not %q", c, s, other)
		}
	}
}

// 18.2

// Known keys and signatures: Amazon's own examples.
func TestSigningKeyKnown(t *testing.T) {
	const secret = "wJalrXUtnFEMI/K7MDENG+bPxRfiCYEXAMPLEKEY"
	for _, c := range []struct{ day, region, service, want string }{
		{"20120215", "us-east-1", "iam", "f4780e2d9f65fa895f9c67b32ce1baf0b0d8a43505a000a1a9e090d414db404d"},
		{"20150830", "us-east-1", "iam", "c4afb1cc5771d871763a393e44b703571b55cc28424d1a5e86da6ed3c154a4b9"},
	} {
		if k := SigningKey(secret, c.day, c.region, c.service); hex.EncodeToString(k) != c.want {
			t.Errorf("%v: %x", c, k)
		}
	}
}

func TestSignKnown(t *testing.T) {
	key, _ := hex.DecodeString("c4afb1cc5771d871763a393e44b703571b55cc28424d1a5e86da6ed3c154a4b9")
	canonical := lines("GET", "/", "Action=ListUsers&Version=2010-05-08", "content-type:application/x-www-form-urlencoded; charset=utf-8", "host:iam.amazonaws.com", "x-amz-date:20150830T123600Z", "", "content-type;host;x-amz-date", sumOf(""))
	if s := Sign(key, "20150830T123600Z", "20150830/us-east-1/iam/aws4_request", canonical); s != "5d672d79c15b13162d9279b0855cfba6789a8edb4c82c400e06b5924a6f2b5d7" {
		t.Error(s)
	}
}

// texts are short and long ones, with bytes of all kinds.
func texts() []string {
	return []string{"", "a", "20130524", "us-east-1", "s3", "AWS4", "aws4_request", "a/b", "a\nb", "\n", "\x00", "\xff\xfe", "\u00e9", " ", strings.Repeat("k", 59), strings.Repeat("k", 60), strings.Repeat("k", 61), strings.Repeat("k", 64), strings.Repeat("k", 65), strings.Repeat("k", 1000)}
}

func TestSigningKeyAndSign(t *testing.T) {
	for i, a := range texts() {
		for j, b := range texts() {
			c, d := texts()[(i+3*j)%20], texts()[(7*i+j)%20]
			if k := SigningKey(a, b, c, d); !slices.Equal(k, keyModel(a, b, c, d)) {
				t.Errorf("%q %q %q %q: %x", a, b, c, d, k)
			}
			if s := Sign([]byte(a), b, c, d); s != signModel([]byte(a), b, c, d) {
				t.Errorf("%q %q %q %q: %s", a, b, c, d, s)
			}
		}
	}
	if s := Sign(nil, "", "", ""); s != Sign([]byte{}, "", "", "") || !digestForm.MatchString(s) {
		t.Error(s)
	}
}
