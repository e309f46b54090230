package route

import (
	"fmt"
	"strings"
	"testing"

	"stowage/api"
)

// 20.1

type placed struct {
	target, host string // no host: none is told
	bucket, key  string
	e            api.Errno
}

func at(target, host string) api.Request {
	if host == "" {
		return ask("GET", target)
	}
	return ask("GET", target, "host", host)
}

func places(t *testing.T, l ...placed) {
	t.Helper()
	for _, c := range l {
		agrees(t, at(c.target, c.host), nil)
		if b, k, e := Place(at(c.target, c.host)); b != c.bucket || k != c.key || e != c.e {
			t.Errorf("%.200q %q: %q %q %d", c.target, c.host, b, k, e)
		}
	}
}

func TestPlaceByPath(t *testing.T) {
	places(t,
		placed{target: "/"},
		placed{target: ""},
		placed{target: "?x"},
		placed{target: "/?x=/abc/k"},
		placed{target: "/abc", bucket: "abc"},
		placed{target: "abc", bucket: "abc"},
		placed{target: "/abc/", bucket: "abc"},
		placed{target: "/abc?versionId=7", bucket: "abc"},
		placed{target: "/abc/k", bucket: "abc", key: "k"},
		placed{target: "abc/k", bucket: "abc", key: "k"},
		placed{target: "/abc/k?a/b?c", bucket: "abc", key: "k"},
		placed{target: "/abc//", bucket: "abc", key: "/"},
		placed{target: "/abc/k/", bucket: "abc", key: "k/"},
		placed{target: "/abc/a/b//c", bucket: "abc", key: "a/b//c"},
		placed{target: "/abc/.", bucket: "abc", key: "."},
		placed{target: "/abc/../x", bucket: "abc", key: "../x"},
		placed{target: "/abc/a+b", bucket: "abc", key: "a+b"},
		placed{target: "/abc/k#x&y=z", bucket: "abc", key: "k#x&y=z"},
		placed{target: "//k", key: "k"},
		placed{target: "//k/l", key: "k/l"},
		placed{target: "//", key: ""},
		placed{target: "///", key: "/"},
		placed{target: "/abc/k", host: "s3.local", bucket: "abc", key: "k"},
		placed{target: "/abc/k", host: "example.org", bucket: "abc", key: "k"},
	)
}

func TestPlaceByHost(t *testing.T) {
	places(t,
		placed{target: "/k", host: "abc.s3.local", bucket: "abc", key: "k"},
		placed{target: "k", host: "abc.s3.local", bucket: "abc", key: "k"},
		placed{target: "/", host: "abc.s3.local", bucket: "abc"},
		placed{target: "", host: "abc.s3.local", bucket: "abc"},
		placed{target: "?x", host: "abc.s3.local", bucket: "abc"},
		placed{target: "/k/l?x", host: "abc.s3.local", bucket: "abc", key: "k/l"},
		placed{target: "/abc/k", host: "abc.s3.local", bucket: "abc", key: "abc/k"},
		placed{target: "//k", host: "abc.s3.local", bucket: "abc", key: "/k"},
		placed{target: "//", host: "abc.s3.local", bucket: "abc", key: "/"},
		placed{target: "/k%2Fl", host: "abc.s3.local", bucket: "abc", key: "k/l"},
		placed{target: "/%2Fk", host: "abc.s3.local", bucket: "abc", key: "/k"},
		placed{target: "%2Fk", host: "abc.s3.local", bucket: "abc", key: "k"},
		placed{target: "/k", host: "a.b-c.d.s3.local", bucket: "a.b-c.d", key: "k"},
		placed{target: "/k", host: "abc.s3.local.s3.local", bucket: "abc.s3.local", key: "k"},
		placed{target: "/k", host: "abc.s3.local:", bucket: "abc", key: "k"},
		placed{target: "/k", host: "abc.s3.local:9000", bucket: "abc", key: "k"},
		placed{target: "/k", host: "abc.s3.local:x:y", bucket: "abc", key: "k"},
		placed{target: "/k", host: "ABC.S3.Local:80", bucket: "abc", key: "k"},
		placed{target: "/k", host: "aBc.s3.LOCAL", bucket: "abc", key: "k"},
		placed{target: "/k", host: "www.s3.local", bucket: "www", key: "k"},
	)
}

// Hosts that end otherwise, or have nothing ahead of that end, name no bucket.
func TestHostsThatNameNone(t *testing.T) {
	for _, host := range []string{"s3.local", ".s3.local", "S3.LOCAL:80", "xyz.s3.local.", "xyz.s3.locals", "xyz.s3.loca", "xyzs3.local", "xyz.s3-local", "xyz", "xyz:.s3.local", ":xyz.s3.local", "xyz.s3.local ", "xyz.s3.local/", "[::1]", ":", " ", "xyz.s3.loc\u212Al", "xyz.\u017F3.local"} {
		places(t, placed{target: "/abc/k", host: host, bucket: "abc", key: "k"}, placed{target: "/", host: host})
	}
}

// The first host counts, and no header of another name is one.
func TestWhichHost(t *testing.T) {
	for _, c := range []struct {
		r      api.Request
		bucket string
	}{
		{ask("GET", "/xyz", "host", "abc.s3.local", "host", "s3.local"), "abc"},
		{ask("GET", "/xyz", "host", "s3.local", "host", "abc.s3.local"), "xyz"},
		{ask("GET", "/xyz", "host", "", "host", "abc.s3.local"), "xyz"},
		{ask("GET", "/xyz", "Host", "abc.s3.local"), "xyz"},
		{ask("GET", "/xyz", "x-host", "abc.s3.local", "origin", "abc.s3.local"), "xyz"},
		{ask("GET", "/xyz", "Host", "def.s3.local", "a", "b", "host", "abc.s3.local"), "abc"},
	} {
		agrees(t, c.r, nil)
		if b, _, e := Place(c.r); b != c.bucket || e != api.OK {
			t.Error(c.r, b, e)
		}
	}
}

func TestEscapesOfPlaces(t *testing.T) {
	places(t,
		placed{target: "/%61bc/%6b", bucket: "abc", key: "k"},
		placed{target: "/abc%2Fk", bucket: "abc", key: "k"},
		placed{target: "%2Fabc/k", bucket: "abc", key: "k"},
		placed{target: "%2f%2fk", key: "k"},
		placed{target: "/%2Fabc", key: "abc"},
		placed{target: "/abc/%2F%20%25%3F", bucket: "abc", key: "/ %?"},
		placed{target: "/abc/%e2%82%AC", bucket: "abc", key: "\u20ac"},
		placed{target: "/abc/\u20ac", bucket: "abc", key: "\u20ac"},
		placed{target: "/abc/%0A%01%7F", bucket: "abc", key: "\n\x01\x7f"},
		placed{target: "/abc/%2541", bucket: "abc", key: "%41"},
		placed{target: "/abc%3Fx", e: api.ErrInvalidBucketName},
		placed{target: "/abc/k?%", bucket: "abc", key: "k"},
	)
	for _, wrong := range []string{"%", "%4", "%4g", "%g4", "%%41", "%-1", "% 1", "%+1", "%0x", "%u0041", "%\xff1"} {
		for _, host := range []string{"", "s3.local", "abc.s3.local"} {
			places(t,
				placed{target: "/abc/k" + wrong, host: host, e: api.ErrInvalidURI},
				placed{target: "/abc/" + wrong + "zz", host: host, e: api.ErrInvalidURI},
				placed{target: "/a" + wrong + "zz", host: host, e: api.ErrInvalidURI},
				placed{target: wrong, host: host, e: api.ErrInvalidURI},
			)
		}
	}
}

func TestBucketsThatAreWrong(t *testing.T) {
	for _, name := range []string{"ab", "a", "ABC", "aBc", "a_b", "-ab", "ab-", ".ab", "ab.", "a..b", "1.2.3.4", "192.168.000.1", "a b", "ab\u00e9", "abc\x00", "abc:d", "*", strings.Repeat("a", 64), strings.Repeat("a", 1100)} {
		places(t,
			placed{target: "/" + name, e: api.ErrInvalidBucketName},
			placed{target: "/" + name + "/k", e: api.ErrInvalidBucketName},
			placed{target: "/" + name + "/" + strings.Repeat("k", 1025), e: api.ErrInvalidBucketName},
			placed{target: "/" + name + "/%00", e: api.ErrInvalidBucketName},
		)
	}
	for _, name := range []string{"abc", "a-b", "a.b", "1.2.3", "1.2.3.4.5", "1.2.3.a", "123", strings.Repeat("a", 63)} {
		places(t, placed{target: "/" + name, bucket: name}, placed{target: "/k", host: name + ".s3.local", bucket: name, key: "k"})
	}
	for _, host := range []string{"ab", "A_B", "a..b", "-ab", "1.2.3.4", "a b", "%61bc", "ab/c", strings.Repeat("a", 64)} {
		places(t, placed{target: "/k", host: host + ".s3.local", e: api.ErrInvalidBucketName})
	}
	places(t, placed{target: "*", e: api.ErrInvalidBucketName}, placed{target: "*", host: "abc.s3.local", bucket: "abc", key: "*"})
}

// The bound of keys is of their bytes, as they are behind the escapes; it is asked ahead of what they are.
func TestLongKeys(t *testing.T) {
	for _, piece := range []string{"k", "/", "%6B", "%00", "%ff", "\u00e9", "%e2%82%ac"} {
		for _, n := range []int{1023, 1024, 1025, 1026, 5000} {
			one, _ := unescaped(piece)
			times := n / len(one)
			path := strings.Repeat(piece, times) + strings.Repeat("x", n-times*len(one))
			key, _ := unescaped(path)
			want := placed{bucket: "abc", key: key}
			switch {
			case n > 1024:
				want = placed{e: api.ErrKeyTooLongError}
			case piece == "%00" || piece == "%ff":
				want = placed{e: api.ErrInvalidURI}
			}
			want.target = "/abc/" + path
			places(t, want)
			want.target, want.host = "/"+path, "abc.s3.local"
			places(t, want)
			if want.bucket != "" {
				want.bucket = ""
			}
			want.target, want.host = "//"+path, ""
			places(t, want)
		}
	}
}

func TestKeysThatAreWrong(t *testing.T) {
	for _, key := range []string{"%00", "a%00b", "%ff", "\xff", "%c3", "%c3x", "%c0%80", "%ed%a0%80", "%f4%90%80%80", "a\x00"} {
		places(t,
			placed{target: "/abc/" + key, e: api.ErrInvalidURI},
			placed{target: "/" + key, host: "abc.s3.local", e: api.ErrInvalidURI},
			placed{target: "//" + key, e: api.ErrInvalidURI},
		)
	}
}

// 20.5

func TestPathAndHostAlike(t *testing.T) {
	queries := []string{"", "?", "?versionId=null", "?versionId=x", "?tagging", "?uploads", "?uploadId=u", "?uploadId=u&partNumber=3", "?acl", "?cors&cors", "?versions&prefix=a", "?list-type=2&start-after=s", "?delete", "?cors", "?versioning", "?location"}
	headers := []string{"x-amz-copy-source", "src/k", "x-amz-meta-a", "b", "x-amz-metadata-directive", "REPLACE", "x-amz-tagging", "a=b"}
	for _, bucket := range []string{"abc", "a-b.c", "1.2.3", "a_b", "a..b", "ab"} {
		for _, key := range []string{"", "k", "a/b", "/", "//x", "%2F", "%20+", "%", "%00", "%ff", "*", "\u20ac", strings.Repeat("k", 1024), strings.Repeat("k", 1025)} {
			for _, method := range allMethods[:7] {
				for _, query := range queries {
					for n := 0; n <= len(headers); n += 2 {
						byPath := ask(method, "/"+bucket+"/"+key+query, append([]string{"host", "s3.local"}, headers[:n]...)...)
						byHost := ask(method, "/"+key+query, append([]string{"host", bucket + ".s3.local:80"}, headers[:n]...)...)
						o, e := agrees(t, byPath, nil)
						other, f := agrees(t, byHost, nil)
						if e != f || !same(o, other) {
							t.Fatal(fmt.Sprintf("%.200q", byPath), o, e, other, f)
						}
					}
				}
			}
		}
	}
}
