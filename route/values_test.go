package route

import (
	"encoding/base64"
	"fmt"
	"strings"
	"testing"

	"stowage/api"
)

// 20.3: what stands in the query

// carrier asks a row, to which a pair may be added; put says what it must tell, where the pair's value is text.
type carrier struct {
	name, kind, target, method string
	want                       api.Op
	put                        func(o *api.Op, text string)
}

var page = api.Query{Max: 1000}

// texts are all the values that may be any text.
func texts() []carrier {
	bucket, key := api.Op{Bucket: "abc", Q: page}, api.Op{Bucket: "abc", Key: "k", Upload: "u", Q: page}
	v2, marked := bucket, bucket
	v2.V2, marked.Q.Marker = true, "m"
	l := []carrier{
		{"marker", "List", "/abc?x", "GET", bucket, func(o *api.Op, s string) { o.Q.Marker = s }},
		{"start-after", "List", "/abc?list-type=2", "GET", v2, func(o *api.Op, s string) { o.Q.After, o.Q.Marker = s, s }},
		{"key-marker", "Versions", "/abc?versions", "GET", bucket, func(o *api.Op, s string) { o.Q.Marker = s }},
		{"key-marker", "Uploads", "/abc?uploads", "GET", bucket, func(o *api.Op, s string) { o.Q.Marker = s }},
		{"version-id-marker", "Versions", "/abc?versions&key-marker=m", "GET", marked, func(o *api.Op, s string) { o.Q.Second = s }},
		{"upload-id-marker", "Uploads", "/abc?uploads&key-marker=m", "GET", marked, func(o *api.Op, s string) { o.Q.Second = s }},
	}
	for _, c := range []carrier{
		{kind: "List", target: "/abc?x", want: bucket},
		{kind: "List", target: "/abc?list-type=2", want: v2},
		{kind: "Versions", target: "/abc?versions", want: bucket},
		{kind: "Uploads", target: "/abc?uploads", want: bucket},
		{kind: "Parts", target: "/abc/k?uploadId=u", want: key},
	} {
		l = append(l,
			carrier{"prefix", c.kind, c.target, "GET", c.want, func(o *api.Op, s string) { o.Q.Prefix = s }},
			carrier{"delimiter", c.kind, c.target, "GET", c.want, func(o *api.Op, s string) { o.Q.Delim = s }})
	}
	return l
}

// numbers are all the values that must be numbers.
func numbers() []carrier {
	bucket, key := api.Op{Bucket: "abc", Q: page}, api.Op{Bucket: "abc", Key: "k", Upload: "u", Q: page}
	v2 := bucket
	v2.V2 = true
	return []carrier{
		{"max-keys", "List", "/abc?x", "GET", bucket, nil},
		{"max-keys", "List", "/abc?list-type=2", "GET", v2, nil},
		{"max-keys", "Versions", "/abc?versions", "GET", bucket, nil},
		{"max-uploads", "Uploads", "/abc?uploads", "GET", bucket, nil},
		{"max-parts", "Parts", "/abc/k?uploadId=u", "GET", key, nil},
		{"part-number-marker", "Parts", "/abc/k?uploadId=u", "GET", key, nil},
	}
}

// tell holds what is told where pairs are added against want.
func (c carrier) tell(t *testing.T, pairs, text string) {
	t.Helper()
	want := c.want
	c.put(&want, text)
	orders(t, ask(c.method, c.target+pairs), "", c.kind, want)
}

func TestTexts(t *testing.T) {
	for _, c := range texts() {
		name := "&" + c.name
		c.tell(t, "", "")
		c.tell(t, name, "")
		c.tell(t, name+"=", "")
		c.tell(t, name+"=a", "a")
		c.tell(t, name+"=a=b", "a=b")
		c.tell(t, name+"=a?b/c", "a?b/c")
		c.tell(t, name+"=+a+b%2Bc++", " a b+c  ")
		c.tell(t, name+"=%61%2f%26%3D%20", "a/&= ")
		c.tell(t, name+"=%e2%82%AC\u20ac", "\u20ac\u20ac")
		c.tell(t, name+"=%09%0A%0D", "\t\n\r")
		c.tell(t, name+"=%2541", "%41")
		c.tell(t, name+"=a&"+c.name+"=b", "a")
		c.tell(t, name+"&"+c.name+"=b", "")
		c.tell(t, name+"=a&"+c.name+"=%", "a") // the second one is never asked
		c.tell(t, "&"+strings.ToUpper(c.name)+"=a&x-"+c.name+"=a&%6D"+c.name[1:]+"=a&=a&+=b", "")
		c.tell(t, name+"="+strings.Repeat("k", 5000), strings.Repeat("k", 5000))
		for _, wrong := range []string{"%", "%4", "a%g0", "%%41", "%+1", "%ff", "\xff", "%00", "%01", "%1F", "%ef%bf%be", "%ed%a0%80", "%c0%80", "\x00", "%0B"} {
			refuses(t, ask(c.method, c.target+name+"="+wrong), "", api.ErrInvalidArgument)
			refuses(t, ask(c.method, c.target+name+"="+wrong+"&"+c.name+"=a"), "", api.ErrInvalidArgument)
		}
	}
}

func TestNumbersOfPages(t *testing.T) {
	for _, c := range numbers() {
		most, missing := 1000, 1000
		c.put = func(o *api.Op, s string) { fmt.Sscan(s, &o.Q.Max) }
		if c.name == "part-number-marker" {
			most, missing = 999999999999999999, 0
			c.put = func(o *api.Op, s string) { fmt.Sscan(s, &o.Q.From) }
		}
		name := "&" + c.name
		c.tell(t, "", fmt.Sprint(missing))
		for _, n := range []int{0, 1, 2, 9, 10, 999, 1000, 1001, 1002, 10000, 10001, 1 << 31, 1 << 32, 999999999999999999} {
			c.tell(t, fmt.Sprintf("%s=%d", name, n), fmt.Sprint(min(n, most)))
		}
		c.tell(t, name+"=%31%30", "10")
		c.tell(t, name+"=7&"+c.name+"=x&"+c.name+"=8", "7")
		c.tell(t, "&"+strings.ToUpper(c.name)+"=7", fmt.Sprint(missing))
		for _, wrong := range []string{"", "=", "=x", "=-1", "=+1", "=01", "=00", "=1+", "=%201", "=1.0", "=1e3", "=0x1", "=1000000000000000000", "=9223372036854775807", "=18446744073709551616", "=%", "=%\xb2", "=\u0661", "=1%00"} {
			refuses(t, ask(c.method, c.target+name+wrong), "", api.ErrInvalidArgument)
			refuses(t, ask(c.method, c.target+name+wrong+name+"=1"), "", api.ErrInvalidArgument)
		}
	}
}

// What belongs to other orders is not asked, however wrong it is.
func TestValuesOfOthers(t *testing.T) {
	own := map[string]string{
		"List":     "list-type prefix delimiter max-keys marker",
		"Versions": "prefix delimiter max-keys key-marker version-id-marker",
		"Uploads":  "prefix delimiter max-uploads key-marker upload-id-marker",
		"Parts":    "prefix delimiter max-parts part-number-marker",
		"Get":      "versionId", "Head": "versionId", "Delete": "versionId", "GetTags": "versionId", "PutTags": "versionId", "DropTags": "versionId",
		"Part": "partNumber",
	}
	for _, l := range rows() {
		for _, name := range strings.Fields("list-type prefix delimiter max-keys max-uploads max-parts marker key-marker version-id-marker upload-id-marker part-number-marker start-after continuation-token versionId partNumber") {
			r, data := whole(l)
			if l.name == "Part" && name == "partNumber" {
				r.Target = strings.Replace(r.Target, "partNumber=7", "", 1)
			}
			r.Target += "&" + name + "=%"
			o, e := agrees(t, r, []byte(data))
			if asks := strings.Contains(" "+own[l.name]+" ", " "+name+" "); asks != (e == api.ErrInvalidArgument) || !asks && (e != api.OK || o.Kind != l.kind) {
				t.Error(l.name, name, o, e)
			}
		}
	}
}

func TestListType(t *testing.T) {
	one, two := api.Op{Bucket: "abc", Q: page}, api.Op{Bucket: "abc", Q: page, V2: true}
	one.Q.Marker, two.Q.Marker, two.Q.After = "m", "s", "s"
	const others = "&marker=m&start-after=s"
	for query, want := range map[string]api.Op{"list-type=2": two, "list-type=%32": two, "list-type=2&list-type=1": two, "list-type=1&list-type=2": one, "list-type": one, "list-type=": one, "list-type=1": one, "list-type=02": one, "list-type=2+": one, "list-type=+2": one, "list-type=22": one, "List-Type=2": one, "list-type=&list-type=2": one, "x": one} {
		orders(t, ask("GET", "/abc?"+query+others), "", "List", want)
	}
	refuses(t, ask("GET", "/abc?list-type=%"), "", api.ErrInvalidArgument)
	for _, sub := range []string{"versions", "uploads"} { // it says nothing there
		if o, e := agrees(t, ask("GET", "/abc?list-type=2&"+sub), nil); e != api.OK || o.V2 {
			t.Error(sub, o, e)
		}
	}
}

// Each of the two ways to list leaves alone what belongs to the other one.
func TestMarkersOfTheOtherWay(t *testing.T) {
	orders(t, ask("GET", "/abc?start-after=%&continuation-token=x&marker=m"), "", "List", api.Op{Bucket: "abc", Q: api.Query{Max: 1000, Marker: "m"}})
	orders(t, ask("GET", "/abc?list-type=2&marker=%"), "", "List", api.Op{Bucket: "abc", V2: true, Q: page})
	orders(t, ask("GET", "/abc?list-type=2&marker=%01&start-after=s"), "", "List", api.Op{Bucket: "abc", V2: true, Q: api.Query{Max: 1000, Marker: "s", After: "s"}})
}

func TestTokens(t *testing.T) {
	const target = "/abc?list-type=2&start-after=s&continuation-token"
	tell := func(value, token, marker string) {
		t.Helper()
		orders(t, ask("GET", target+value), "", "List", api.Op{Bucket: "abc", V2: true, Q: api.Query{Max: 1000, Token: token, After: "s", Marker: marker}})
	}
	tell("", "", "")
	tell("=", "", "")
	tell("=aw==", "aw==", "k")
	tell("=aw%3D%3D", "aw==", "k")
	tell("=aw==&continuation-token=x", "aw==", "k")
	tell("=&continuation-token=aw==", "", "")
	for _, key := range []string{"a", "ab", "abc", "a/b", "\u20ac", "\t\n\r", "s", strings.Repeat("k", 1024), "\u03ff\u07ff>>>???"} {
		token := base64.StdEncoding.EncodeToString([]byte(key))
		tell("="+strings.NewReplacer("+", "%2B", "/", "%2F", "=", "%3D").Replace(token), token, key)
	}
	for _, wrong := range []string{"=x", "=aw", "=aw=", "=aw%3D", "=ax==", "=a-_=", "=aw==%0A", "=aw==+", "=%", "====", "=aw==aw==", "=/w==", "=AA==", "=wIA=", "=7aCA", "=Cw==", "=z7+=", "==="} {
		refuses(t, ask("GET", target+wrong), "", api.ErrInvalidArgument)
	}
	// What follows the start is asked nothing else, if there is a token.
	tell2 := api.Op{Bucket: "abc", V2: true, Q: api.Query{Max: 1000, Token: "aw==", After: "\x01\xff", Marker: "k"}}
	orders(t, ask("GET", "/abc?list-type=2&start-after=%01%ff&continuation-token=aw=="), "", "List", tell2)
	refuses(t, ask("GET", "/abc?list-type=2&start-after=%01"), "", api.ErrInvalidArgument)
	refuses(t, ask("GET", "/abc?list-type=2&start-after=%&continuation-token=aw=="), "", api.ErrInvalidArgument)
}

func TestSecondMarkers(t *testing.T) {
	for kind, sub := range map[string]string{"Versions": "versions&version-id-marker", "Uploads": "uploads&upload-id-marker"} {
		target := "/abc?" + sub
		refuses(t, ask("GET", target+"=x"), "", api.ErrInvalidArgument)
		refuses(t, ask("GET", target+"=x&key-marker"), "", api.ErrInvalidArgument)
		refuses(t, ask("GET", target+"=x&key-marker="), "", api.ErrInvalidArgument)
		refuses(t, ask("GET", target+"=x&key-marker=&key-marker=k"), "", api.ErrInvalidArgument)
		refuses(t, ask("GET", target+"=x&marker=k"), "", api.ErrInvalidArgument)
		orders(t, ask("GET", target), "", kind, api.Op{Bucket: "abc", Q: page})
		orders(t, ask("GET", target+"="), "", kind, api.Op{Bucket: "abc", Q: page})
		orders(t, ask("GET", target+"=&key-marker=k"), "", kind, api.Op{Bucket: "abc", Q: api.Query{Max: 1000, Marker: "k"}})
		orders(t, ask("GET", target+"=x&key-marker=k"), "", kind, api.Op{Bucket: "abc", Q: api.Query{Max: 1000, Marker: "k", Second: "x"}})
		orders(t, ask("GET", target+"=+&key-marker=+"), "", kind, api.Op{Bucket: "abc", Q: api.Query{Max: 1000, Marker: " ", Second: " "}})
	}
	// Of the other one's second marker nothing is asked.
	orders(t, ask("GET", "/abc?versions&upload-id-marker=x"), "", "Versions", api.Op{Bucket: "abc", Q: page})
	orders(t, ask("GET", "/abc?uploads&version-id-marker=x"), "", "Uploads", api.Op{Bucket: "abc", Q: page})
}

func TestVersion(t *testing.T) {
	for _, ofVersion := range []struct{ method, target, kind string }{
		{"GET", "/abc/k?x", "Get"}, {"HEAD", "/abc/k?x", "Head"}, {"DELETE", "/abc/k?x", "Delete"}, {"GET", "/abc/k?tagging", "GetTags"}, {"PUT", "/abc/k?tagging", "PutTags"}, {"DELETE", "/abc/k?tagging", "DropTags"},
	} {
		data, want := "", api.Op{Bucket: "abc", Key: "k"}
		if ofVersion.kind == "PutTags" {
			data, want.Tags = tagsDocument, []api.Tag{{Key: "a", Value: "1"}, {Key: "b"}}
		}
		tell := func(query, version string) {
			t.Helper()
			want.Version = version
			orders(t, ask(ofVersion.method, ofVersion.target+query), data, ofVersion.kind, want)
		}
		tell("", "")
		tell("&versionId=null", "null")
		tell("&versionId=n%75ll", "null")
		tell("&versionId=0000000000000000", "0000000000000000")
		tell("&versionId=00000000000000ff", "00000000000000ff")
		tell("&versionId=7fffffffffffffff", "7fffffffffffffff")
		tell("&versionId=null&versionId=x", "null")
		tell("&versionId=%30000000000000001&versionId=null", "0000000000000001")
		tell("&VersionId=x&versionid=x&version=x", "")
		for _, wrong := range []string{"", "=", "=x", "=Null", "=NULL", "=null+", "=+null", "=nul", "=nulll", "=0", "=ff", "=00000000000000FF", "=000000000000000", "=00000000000000000", "=8000000000000000", "=ffffffffffffffff", "=000000000000000g", "=000000000000000+", "=%", "=null%", "=null%00", "=0000000000000000%0D%0A", "==null"} {
			refuses(t, ask(ofVersion.method, ofVersion.target+"&versionId"+wrong), data, api.ErrInvalidArgument)
			refuses(t, ask(ofVersion.method, ofVersion.target+"&versionId"+wrong+"&versionId=null"), data, api.ErrInvalidArgument)
		}
	}
}

func TestUpload(t *testing.T) {
	for method, kind := range map[string]string{"PUT": "Part", "POST": "Complete", "DELETE": "Abort", "GET": "Parts"} {
		data, want := "", api.Op{Bucket: "abc", Key: "k"}
		target := "/abc/k?uploadId"
		switch kind {
		case "Part":
			target, want.Number = "/abc/k?partNumber=7&uploadId", 7
		case "Complete":
			data, want.Parts = partsDocument, []api.PartRef{{Number: 2, ETag: "x"}, {Number: 1, ETag: "y"}}
		case "Parts":
			want.Q = page
		}
		for value, upload := range map[string]string{"=u": "u", "=u+%2B": "u +", "=0000000000000001": "0000000000000001", "=%ff%00": "\xff\x00", "=+": " ", "==": "=", "=" + strings.Repeat("u", 3000): strings.Repeat("u", 3000)} {
			want.Upload = upload
			orders(t, ask(method, target+value), data, kind, want)
		}
		for _, wrong := range []string{"", "=", "=%", "=u%4", "=%u"} {
			refuses(t, ask(method, target+wrong), data, api.ErrInvalidArgument)
		}
		refuses(t, ask(method, target+"=u&uploadId=u"), data, api.ErrInvalidArgument)
	}
}

func TestPartNumber(t *testing.T) {
	const target = "/abc/k?uploadId=u"
	for value, n := range map[string]int{"=1": 1, "=2": 2, "=9999": 9999, "=10000": 10000, "=%31": 1, "=5&partNumber=0": 5, "=5&partNumber=%": 5, "=5&PartNumber=x": 5} {
		orders(t, ask("PUT", target+"&partNumber"+value), "data", "Part", api.Op{Bucket: "abc", Key: "k", Upload: "u", Number: n})
	}
	for _, wrong := range []string{"&x", "&partNumber", "&partNumber=", "&partNumber=0", "&partNumber=10001", "&partNumber=10002", "&partNumber=100000", "&partNumber=-1", "&partNumber=+1", "&partNumber=01", "&partNumber=1+", "&partNumber=x", "&partNumber=%", "&partNumber=999999999999999999", "&partNumber=1000000000000000000", "&partNumber=18446744073709551617", "&partnumber=1", "&partNumber=0&partNumber=1"} {
		refuses(t, ask("PUT", target+wrong), "data", api.ErrInvalidArgument)
	}
}
