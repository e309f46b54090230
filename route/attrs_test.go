package route

import (
	"fmt"
	"slices"
	"strings"
	"testing"

	"stowage/api"
)

// 20.3: what stands in the headers

// keepers are the requests to which attributes belong.
func keepers() map[string]api.Request {
	return map[string]api.Request{
		"Put":   ask("PUT", "/abc/k"),
		"Begin": ask("POST", "/abc/k?uploads"),
		"Copy":  ask("PUT", "/abc/k", "x-amz-copy-source", "src/s", "x-amz-metadata-directive", "REPLACE"),
	}
}

func with(r api.Request, headers ...string) api.Request {
	r.Headers = slices.Concat(r.Headers, ask("", "", headers...).Headers)
	return r
}

// keeps tells that these headers are told as those attributes, by each order that has some.
func keeps(t *testing.T, want api.Attrs, headers ...string) {
	t.Helper()
	for kind, r := range keepers() {
		o := api.Op{Bucket: "abc", Key: "k", Attrs: want}
		if kind == "Copy" {
			o.Source, o.Replace = api.Source{Bucket: "src", Key: "s"}, true
		}
		orders(t, with(r, headers...), "some data", kind, o)
	}
}

func keepsNot(t *testing.T, e api.Errno, headers ...string) {
	t.Helper()
	for _, r := range keepers() {
		refuses(t, with(r, headers...), "some data", e)
	}
}

func TestType(t *testing.T) {
	keeps(t, api.Attrs{Type: "binary/octet-stream"})
	keeps(t, api.Attrs{Type: "binary/octet-stream"}, "Content-Type", "a", "x-content-type", "a", "content-types", "a")
	for _, s := range []string{"text/plain", "", " a ", "a; b=\"c\"", "\xff\x00", strings.Repeat("t", 8000)} {
		keeps(t, api.Attrs{Type: s}, "content-type", s)
		keeps(t, api.Attrs{Type: s}, "x", "y", "content-type", s, "content-type", "b")
	}
}

func TestMeta(t *testing.T) {
	typed := func(l ...string) api.Attrs {
		return api.Attrs{Type: "binary/octet-stream", Meta: ask("", "", l...).Headers}
	}
	keeps(t, typed("x-amz-meta-a", "1"), "x-amz-meta-a", "1")
	keeps(t, typed("x-amz-meta-", ""), "x-amz-meta-", "")
	keeps(t, typed("x-amz-meta-A", " \xff", "x-amz-meta-a", "%20+"), "x-amz-meta-a", "%20+", "x-amz-meta-A", " \xff")
	keeps(t, typed("x-amz-meta-a", "2", "x-amz-meta-a", "1", "x-amz-meta-a", "2"), "x-amz-meta-a", "2", "x-amz-meta-a", "1", "x-amz-meta-a", "2")
	keeps(t, typed("x-amz-meta-a", "2", "x-amz-meta-a", "1", "x-amz-meta-aa", "4", "x-amz-meta-b", "3", "x-amz-meta-b", "0"), "x-amz-meta-b", "3", "x-amz-meta-a", "2", "y", "z", "x-amz-meta-aa", "4", "x-amz-meta-a", "1", "x-amz-meta-b", "0")
	keeps(t, typed("x-amz-meta-a", "1", "x-amz-meta-a-b", "2", "x-amz-meta-a.b", "3", "x-amz-meta-a_b", "4"), "x-amz-meta-a_b", "4", "x-amz-meta-a.b", "3", "x-amz-meta-a-b", "2", "x-amz-meta-a", "1")
	keeps(t, typed(), "x-amz-meta", "1", "X-Amz-Meta-a", "1", "x-amz-meta_a", "1", "meta-a", "1", " x-amz-meta-a", "1", "xx-amz-meta-a", "1")
}

// Many of several names in whatever order: rising, and of one name in the order they came in.
func TestMetaOfManyInOrder(t *testing.T) {
	for step := 1; step < 97; step++ {
		var headers []string
		for i := range 97 {
			headers = append(headers, fmt.Sprintf("x-amz-meta-%c", 'a'+i*step%97%7), fmt.Sprint(i))
		}
		o, e := agrees(t, with(keepers()["Put"], headers...), nil)
		if e != api.OK || len(o.Attrs.Meta) != 97 {
			t.Error(o, e)
		}
	}
}

// Names and values count, those of each header; headers of other names do not.
func TestBoundOfMeta(t *testing.T) {
	const name = len("x-amz-meta-a")
	value := func(n int) string { return strings.Repeat("v", n) }
	for _, n := range []int{2000, 2047, 2048} {
		o, e := agrees(t, with(keepers()["Put"], "x-amz-meta-a", value(n-name)), nil)
		if e != api.OK || len(o.Attrs.Meta) != 1 || len(o.Attrs.Meta[0].Value) != n-name {
			t.Error(n, o, e)
		}
		keeps(t, api.Attrs{Type: value(3000), Meta: []api.Header{{Name: "x-amz-meta-a", Value: value(1000)}, {Name: "x-amz-meta-b", Value: value(n - 1000 - 2*name)}}}, "x-amz-meta-b", value(n-1000-2*name), "x", value(3000), "content-type", value(3000), "x-amz-meta-a", value(1000))
		keeps(t, api.Attrs{Type: "t", Meta: []api.Header{{Name: "x-amz-meta-" + value(n-name+1)}}}, "content-type", "t", "x-amz-meta-"+value(n-name+1), "")
		if _, e := agrees(t, with(keepers()["Put"], "x-amz-meta-a", "", "x-amz-meta-a", value(n-2*name)), nil); e != api.OK {
			t.Error(n, e)
		}
	}
	for _, n := range []int{2049, 2050, 4096, 100000} {
		keepsNot(t, api.ErrInvalidArgument, "x-amz-meta-a", value(n-name))
		keepsNot(t, api.ErrInvalidArgument, "x-amz-meta-a", value(1000), "x-amz-meta-b", value(n-1000-2*name))
		keepsNot(t, api.ErrInvalidArgument, "x-amz-meta-a", "", "x-amz-meta-a", value(n-2*name))
		keepsNot(t, api.ErrInvalidArgument, "x-amz-meta-"+value(n-name+1), "")
		keepsNot(t, api.ErrInvalidArgument, "x-amz-tagging", "=", "x-amz-meta-a", value(n-name))
	}
}

func TestTags(t *testing.T) {
	tagged := func(l ...string) api.Attrs {
		a := api.Attrs{Type: "binary/octet-stream"}
		for i := 0; i < len(l); i += 2 {
			a.Tags = append(a.Tags, api.Tag{Key: l[i], Value: l[i+1]})
		}
		return a
	}
	for value, want := range map[string]api.Attrs{
		"":                    tagged(),
		"&":                   tagged(),
		"&&&":                 tagged(),
		"a":                   tagged("a", ""),
		"a=":                  tagged("a", ""),
		"a=1":                 tagged("a", "1"),
		"b=1&a=2":             tagged("b", "1", "a", "2"),
		"&a=1&&b&":            tagged("a", "1", "b", ""),
		"a==":                 tagged("a", "="),
		"a=b=c":               tagged("a", "b=c"),
		"a=b?c/d":             tagged("a", "b?c/d"),
		"+a+=+b+":             tagged(" a ", " b "),
		"%2B=%2b+":            tagged("+", "+ "),
		"%61%26=%3D":          tagged("a&", "="),
		"%e2%82%ac=\u20ac":    tagged("\u20ac", "\u20ac"),
		"a=%0D%0A%09":         tagged("a", "\r\n\t"),
		"%0D=%0A":             tagged("\r", "\n"),
		"a=1&A=1":             tagged("a", "1", "A", "1"),
		"a=1&a+=1":            tagged("a", "1", "a ", "1"),
		"%00=%01":             tagged("\x00", "\x01"),
		"a%00=&a=%00":         tagged("a\x00", "", "a", "\x00"),
		"a=%0B%1f%7F":         tagged("a", "\x0b\x1f\x7f"),
		"%ef%bf%be=\uffff":    tagged("\ufffe", "\uffff"),
		"%ef%bf%bd=\ufffd":    tagged("\ufffd", "\ufffd"),
		"\x00=\x1f":           tagged("\x00", "\x1f"),
		"<a>=%22'%26amp;":     tagged("<a>", "\"'&amp;"),
		" =a":                 tagged(" ", "a"),
		"a%3Db=c":             tagged("a=b", "c"),
		"%2541=%2541":         tagged("%41", "%41"),
		"a=1&b=1&c=1&d=1&e=1": tagged("a", "1", "b", "1", "c", "1", "d", "1", "e", "1"),
	} {
		keeps(t, want, "x-amz-tagging", value)
		keeps(t, want, "X-Amz-Tagging", "=", "x-amz-tagging", value, "x-amz-tagging", "=&%")
	}
}

func TestTagsThatHaveNoUnescape(t *testing.T) {
	for _, wrong := range []string{"%", "a=%", "%=a", "a&%4", "a=%zz", "a=1&b=%g1", "=&%", "%&=", "a&a&%", "a=1&a=%", strings.Repeat("x", 129) + "&%", strings.Repeat("x&", 11) + "%", "%ff=%", "a=%+1"} {
		keepsNot(t, api.ErrInvalidArgument, "x-amz-tagging", wrong)
	}
}

// The bounds are those of a document's tags; each is asked of what the escapes stand for.
func TestTagsThatMayNotBe(t *testing.T) {
	many := func(n int) string {
		var l []string
		for i := range n {
			l = append(l, fmt.Sprintf("k%d=v", i))
		}
		return strings.Join(l, "&")
	}
	for _, wrong := range []string{"=", "=a", "&=", "a=1&=2", "a&a", "a=1&a=1", "a=1&b=2&a=3", "a=1&%61=2", "+=1&%20=2", many(11), many(12), many(5000), "%ff", "a=%ff", "\xff", "a=\xc3", "%01=\xc3", "a%ff=%00", "%c3=%a9", "a=%ed%a0%80", strings.Repeat("%00", 129), "a=" + strings.Repeat("%ef%bf%bf", 257), "%00=1&%00=2", strings.Repeat("k", 129), strings.Repeat("k", 70000), "a=" + strings.Repeat("v", 257), "a=" + strings.Repeat("v", 70000), strings.Repeat("%c3%a9", 129), "a=" + strings.Repeat("\u20ac", 257)} {
		keepsNot(t, api.ErrInvalidTag, "x-amz-tagging", wrong)
	}
	for _, right := range []string{many(9), many(10), strings.Repeat("k", 128), "a=" + strings.Repeat("v", 256), strings.Repeat("%c3%a9", 128), "a=" + strings.Repeat("\u20ac", 256), strings.Repeat("%f0%9f%98%80", 128) + "=" + strings.Repeat("%f0%9f%98%80", 256), strings.Repeat("%00", 128) + "=" + strings.Repeat("%ef%bf%bf", 256)} {
		for kind, r := range keepers() {
			if o, e := agrees(t, with(r, "x-amz-tagging", right), nil); e != api.OK || len(o.Attrs.Tags) != len(strings.Split(right, "&")) {
				t.Errorf("%s %.100q: %v %d", kind, right, o, e)
			}
		}
	}
}

// A header may name characters that no document can hold; bytes that are no characters make no tag.
func TestEachCharacterOfTags(t *testing.T) {
	for b := range 256 {
		key, value := fmt.Sprintf("%%%02x", b), fmt.Sprintf("k=%%%02X", b)
		if b >= 0x80 {
			keepsNot(t, api.ErrInvalidTag, "x-amz-tagging", key)
			keepsNot(t, api.ErrInvalidTag, "x-amz-tagging", value)
			continue
		}
		c := string(rune(b))
		keeps(t, api.Attrs{Type: "t", Tags: []api.Tag{{Key: c}}}, "content-type", "t", "x-amz-tagging", key)
		keeps(t, api.Attrs{Type: "t", Tags: []api.Tag{{Key: "k", Value: c}}}, "content-type", "t", "x-amz-tagging", value)
	}
	for _, c := range []rune{0x80, 0x9F, 0x7FF, 0x800, 0xD7FF, 0xE000, 0xFFFD, 0xFFFE, 0xFFFF, 0x10000, 0x1FFFE, 0x10FFFF} {
		var escaped string
		for _, b := range []byte(string(c)) {
			escaped += fmt.Sprintf("%%%02x", b)
		}
		keeps(t, api.Attrs{Type: "t", Tags: []api.Tag{{Key: string(c), Value: string(c)}}}, "content-type", "t", "x-amz-tagging", escaped+"="+escaped)
	}
}

// The longest tags that may be, of characters that a document writes as six bytes.
func TestTheLongestTags(t *testing.T) {
	var l []string
	want := api.Attrs{Type: "binary/octet-stream"}
	for i := range 10 {
		key, value := strings.Repeat("\"", 127)+fmt.Sprint(i), strings.Repeat("\"", 256)
		l = append(l, key+"="+value)
		want.Tags = append(want.Tags, api.Tag{Key: key, Value: value})
	}
	keeps(t, want, "x-amz-tagging", strings.Join(l, "&"))
	keepsNot(t, api.ErrInvalidTag, "x-amz-tagging", strings.Join(l, "&")+"&a")
	keepsNot(t, api.ErrInvalidTag, "x-amz-tagging", strings.Join(l, "&")+"\"")
}

// Attributes belong to no other order: there they may be as wrong as they like.
func TestAttrsOfOthers(t *testing.T) {
	wrong := []string{"content-type", "t", "x-amz-meta-a", strings.Repeat("v", 3000), "x-amz-tagging", "%"}
	for _, l := range rows() {
		if slices.Contains([]string{"Put", "Begin"}, l.name) {
			continue
		}
		r, data := whole(l)
		o, e := agrees(t, with(r, wrong...), []byte(data))
		if e != api.OK || o.Kind != l.kind || o.Attrs.Type != "" || len(o.Attrs.Meta)+len(o.Attrs.Tags) > 0 {
			t.Error(l, o, e)
		}
	}
	for _, directive := range []string{"COPY", "REPLACE"} {
		o, e := agrees(t, with(ask("PUT", "/abc/k"), "x-amz-metadata-directive", directive, "content-type", "t"), nil)
		if e != api.OK || o.Attrs.Type != "t" || o.Replace {
			t.Error(o, e)
		}
	}
}

func TestSource(t *testing.T) {
	tell := func(value string, want api.Source) {
		t.Helper()
		orders(t, ask("PUT", "/abc/k", "x-amz-copy-source", value), "", "Copy", api.Op{Bucket: "abc", Key: "k", Source: want})
		orders(t, ask("PUT", "/abc/k?versionId=x", "X-Amz-Copy-Source", "", "x-amz-copy-source", value, "x-amz-copy-source", "?"), "data", "Copy", api.Op{Bucket: "abc", Key: "k", Source: want})
	}
	for value, want := range map[string]api.Source{
		"src/s":                              {Bucket: "src", Key: "s"},
		"/src/s":                             {Bucket: "src", Key: "s"},
		"src//s":                             {Bucket: "src", Key: "/s"},
		"src/a/b/":                           {Bucket: "src", Key: "a/b/"},
		"src%2Fs":                            {Bucket: "src", Key: "s"},
		"s%72c/%73":                          {Bucket: "src", Key: "s"},
		"src/%2F":                            {Bucket: "src", Key: "/"},
		"src/a+b%2B%20":                      {Bucket: "src", Key: "a+b+ "},
		"src/a%3Fb":                          {Bucket: "src", Key: "a?b"},
		"src/%3FversionId=null":              {Bucket: "src", Key: "?versionId=null"},
		"src/a&b=c#d":                        {Bucket: "src", Key: "a&b=c#d"},
		"src/%e2%82%ac\u20ac":                {Bucket: "src", Key: "\u20ac\u20ac"},
		"src/%01":                            {Bucket: "src", Key: "\x01"},
		"abc/k":                              {Bucket: "abc", Key: "k"},
		"src/s?versionId=null":               {Bucket: "src", Key: "s", Version: "null"},
		"/src/s?versionId=n%75%6c%6C":        {Bucket: "src", Key: "s", Version: "null"},
		"src/s?versionId=000000000000000f":   {Bucket: "src", Key: "s", Version: "000000000000000f"},
		"src/s?versionId=7fffffffffffffff":   {Bucket: "src", Key: "s", Version: "7fffffffffffffff"},
		"src/" + strings.Repeat("k", 1024):   {Bucket: "src", Key: strings.Repeat("k", 1024)},
		"src/" + strings.Repeat("%6B", 1024): {Bucket: "src", Key: strings.Repeat("k", 1024)},
		strings.Repeat("a", 63) + "/s":       {Bucket: strings.Repeat("a", 63), Key: "s"},
		"src/s?%76ersionId=null":             {Bucket: "src", Key: "s", Version: "null"},
		"src/s?versionId%3Dnull":             {Bucket: "src", Key: "s", Version: "null"},
		"src/s?version%49d%3d%6Eull":         {Bucket: "src", Key: "s", Version: "null"},
		"src/s?%76%65%72%73%69%6f%6e%49%64%3d%30000000000000007": {Bucket: "src", Key: "s", Version: "0000000000000007"},
		"src/s?versionId=%30%30%30%300000000000" + "0a":          {Bucket: "src", Key: "s", Version: "000000000000000a"},
	} {
		tell(value, want)
	}
}

func TestSourcesThatAreWrong(t *testing.T) {
	for _, wrong := range []string{
		"", "/", "//", "?", "/?", "?versionId=null", "src", "/src", "src/", "/src/", "//src/s", "%2Fsrc/s", "/%2Fsrc/s", "sr/s", "SRC/s", "s_c/s", "1.2.3.4/s", " src/s", "src /s",
		"src/%", "src/%4", "src/%zz", "%/s", "src/%00", "src/\xff", "src/%ff", "src/" + strings.Repeat("k", 1025), strings.Repeat("a", 64) + "/s",
		"src/s?", "src/s?x", "src/s?versionId", "src/s?versionId=", "src/s?versionId=x", "src/s?versionId=Null", "src/s?versionid=null", "src/s?VersionId=null", "src/s?x&versionId=null", "src/s?versionId=null&x", "src/s?versionId=null&", "src/s?&versionId=null", "src/s??versionId=null", "src/s?versionId=null?", "src/s?versionId=null?versionId=null", "src/s?versionId==null", "src/s?versionId=%", "src/s?versionId=null%", "src/s?versionId=+null", "src/s?versionId=null+", "src/s?versionId=null ", "src/s?%56ersionId=null", "src/s?%2576ersionId=null", "src/s?versionId%253Dnull", "src/s?versionId=%256Eull", "src/s?%versionId=null", "src/s?versionId%3=null", "src/s?%3DversionId=null", "src/s?versionId%3D=null", "src/s?%2F?versionId=null", "src/s%3FversionId=null?", "src/s%3F?", "src/s?versionId=ff", "src/s?versionId=8000000000000000", "src/s?versionId=00000000000000FF", "src/s?versionId=null\n",
		"src?/s", "src?versionId=null/s", "http://src/s",
	} {
		for _, target := range []string{"/abc/k", "/src/s"} {
			refuses(t, ask("PUT", target, "x-amz-copy-source", wrong), "", api.ErrInvalidArgument)
			refuses(t, ask("PUT", target, "x-amz-copy-source", wrong, "x-amz-copy-source", "src/s", "x-amz-metadata-directive", "REPLACE"), "", api.ErrInvalidArgument)
		}
	}
}

func TestDirective(t *testing.T) {
	copies := []string{"x-amz-copy-source", "src/s", "content-type", "t", "x-amz-meta-a", "1", "x-amz-tagging", "a=b"}
	source := api.Source{Bucket: "src", Key: "s"}
	kept := api.Op{Bucket: "abc", Key: "k", Source: source}
	replaced := api.Op{Bucket: "abc", Key: "k", Source: source, Replace: true, Attrs: api.Attrs{Type: "t", Meta: []api.Header{{Name: "x-amz-meta-a", Value: "1"}}, Tags: []api.Tag{{Key: "a", Value: "b"}}}}
	orders(t, ask("PUT", "/abc/k", copies...), "", "Copy", kept)
	for _, c := range []struct {
		l    []string
		want api.Op
	}{
		{[]string{"COPY"}, kept}, {[]string{"REPLACE"}, replaced}, {[]string{"COPY", "REPLACE"}, kept}, {[]string{"REPLACE", "COPY"}, replaced}, {[]string{"REPLACE", "x"}, replaced}, {[]string{"COPY", ""}, kept},
	} {
		r := ask("PUT", "/abc/k", copies...)
		for _, s := range c.l {
			r = with(r, "x-amz-metadata-directive", s)
		}
		orders(t, r, "data", "Copy", c.want)
	}
	orders(t, with(ask("PUT", "/abc/k", copies...), "X-Amz-Metadata-Directive", "REPLACE", "x-amz-tagging-directive", "REPLACE"), "", "Copy", kept)
	for _, wrong := range []string{"", "copy", "replace", "Replace", " REPLACE", "REPLACE ", "REPLACED", "COP", "COPY,REPLACE", "\"COPY\"", "x"} {
		refuses(t, with(ask("PUT", "/abc/k", copies...), "x-amz-metadata-directive", wrong), "", api.ErrInvalidArgument)
		refuses(t, with(ask("PUT", "/abc/k", copies...), "x-amz-metadata-directive", wrong, "x-amz-metadata-directive", "COPY"), "", api.ErrInvalidArgument)
	}
}

// Attributes are told of ahead of the source and of a directive, if they belong to the copy.
func TestFaultsOfCopies(t *testing.T) {
	const name, tags = "x-amz-metadata-directive", "x-amz-tagging"
	refuses(t, ask("PUT", "/abc/k", "x-amz-copy-source", "x", name, "REPLACE", tags, "="), "", api.ErrInvalidTag)
	refuses(t, ask("PUT", "/abc/k", "x-amz-copy-source", "x", name, "COPY", tags, "="), "", api.ErrInvalidArgument)
	refuses(t, ask("PUT", "/abc/k", "x-amz-copy-source", "x", tags, "="), "", api.ErrInvalidArgument)
	refuses(t, ask("PUT", "/abc/k", "x-amz-copy-source", "src/s", name, "x", tags, "="), "", api.ErrInvalidArgument)
	refuses(t, ask("PUT", "/abc/k", "x-amz-copy-source", "src/s", name, "REPLACE", tags, "="), "", api.ErrInvalidTag)
	orders(t, ask("PUT", "/abc/k", "x-amz-copy-source", "src/s", name, "COPY", tags, "="), "", "Copy", api.Op{Bucket: "abc", Key: "k", Source: api.Source{Bucket: "src", Key: "s"}})
}
