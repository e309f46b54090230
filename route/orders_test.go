package route

import (
	"math"
	"slices"
	"strings"
	"testing"

	"stowage/api"
)

// 20.2

var targets = map[string]string{"neither": "/", "bucket": "/abc", "key": "/abc/k", "astray": "//k"}

const (
	copyDocument  = "<CreateBucketConfiguration/>"
	corsDocument  = "<CORSConfiguration><CORSRule><AllowedOrigin>*</AllowedOrigin><AllowedMethod>PUT</AllowedMethod><MaxAgeSeconds>5</MaxAgeSeconds></CORSRule></CORSConfiguration>"
	stateDocument = "<VersioningConfiguration><Status>Suspended</Status></VersioningConfiguration>"
	namesDocument = "<Delete><Quiet>true</Quiet><Object><Key>a</Key><VersionId>v</VersionId></Object><Object><Key>b</Key></Object></Delete>"
	tagsDocument  = "<Tagging><TagSet><Tag><Key>a</Key><Value>1</Value></Tag><Tag><Key>b</Key><Value/></Tag></TagSet></Tagging>"
	partsDocument = "<CompleteMultipartUpload><Part><PartNumber>2</PartNumber><ETag>\"x\"</ETag></Part><Part><PartNumber>1</PartNumber><ETag>y</ETag></Part></CompleteMultipartUpload>"
)

// whole asks a row with all that it must have.
func whole(l row) (r api.Request, data string) {
	sub := l.sub
	switch sub {
	case "none", "-":
		sub = "x"
	case "uploadId":
		sub = "uploadId=u&partNumber=7"
	}
	target := "/abc/k"
	if t, ok := targets[l.place]; ok {
		target = t
	}
	r = ask(l.method, target+"?"+sub)
	if l.name == "Copy" {
		r = ask(l.method, target+"?"+sub, "x-amz-copy-source", "src/s")
	}
	return r, map[string]string{"Make": copyDocument, "PutVersioning": stateDocument, "PutCors": corsDocument, "Erase": namesDocument, "PutTags": tagsDocument, "Complete": partsDocument}[l.name]
}

func TestEachRow(t *testing.T) {
	page := api.Query{Max: 1000}
	attrs := api.Attrs{Type: "binary/octet-stream"}
	for name, want := range map[string]api.Op{
		"Buckets":       {},
		"Make":          {Bucket: "abc"},
		"Drop":          {Bucket: "abc"},
		"Has":           {Bucket: "abc"},
		"Where":         {Bucket: "abc"},
		"GetVersioning": {Bucket: "abc"},
		"PutVersioning": {Bucket: "abc", State: 2},
		"GetCors":       {Bucket: "abc"},
		"PutCors":       {Bucket: "abc", Rules: []api.Rule{{Origins: []string{"*"}, Methods: []string{"PUT"}, Age: 5}}},
		"DropCors":      {Bucket: "abc"},
		"List":          {Bucket: "abc", Q: page},
		"Versions":      {Bucket: "abc", Q: page},
		"Uploads":       {Bucket: "abc", Q: page},
		"Erase":         {Bucket: "abc", Quiet: true, Names: []api.Named{{Key: "a", Version: "v"}, {Key: "b"}}},
		"Put":           {Bucket: "abc", Key: "k", Attrs: attrs},
		"Copy":          {Bucket: "abc", Key: "k", Source: api.Source{Bucket: "src", Key: "s"}},
		"Get":           {Bucket: "abc", Key: "k"},
		"Head":          {Bucket: "abc", Key: "k"},
		"Delete":        {Bucket: "abc", Key: "k"},
		"GetTags":       {Bucket: "abc", Key: "k"},
		"PutTags":       {Bucket: "abc", Key: "k", Tags: []api.Tag{{Key: "a", Value: "1"}, {Key: "b"}}},
		"DropTags":      {Bucket: "abc", Key: "k"},
		"Begin":         {Bucket: "abc", Key: "k", Attrs: attrs},
		"Part":          {Bucket: "abc", Key: "k", Upload: "u", Number: 7},
		"Complete":      {Bucket: "abc", Key: "k", Upload: "u", Parts: []api.PartRef{{Number: 2, ETag: "x"}, {Number: 1, ETag: "y"}}},
		"Abort":         {Bucket: "abc", Key: "k", Upload: "u"},
		"Parts":         {Bucket: "abc", Key: "k", Upload: "u", Q: page},
		"Allow":         {Bucket: "abc", Key: "k"},
	} {
		i := slices.IndexFunc(rows(), func(l row) bool { return l.name == name })
		r, data := whole(rows()[i])
		orders(t, r, data, name, want)
	}
}

// The numbers of package api are those of the table.
func TestNumbers(t *testing.T) {
	for i, kind := range []int{api.OBuckets, api.OMake, api.ODrop, api.OHas, api.OWhere, api.OGetVersioning, api.OPutVersioning, api.OGetCors, api.OPutCors, api.ODropCors, api.OList, api.OVersions, api.OUploads, api.OErase, api.OPut, api.OCopy, api.OGet, api.OHead, api.ODelete, api.OGetTags, api.OPutTags, api.ODropTags, api.OBegin, api.OPart, api.OComplete, api.OAbort, api.OParts, api.OAllow} {
		if kind != i+1 || rows()[i].kind != kind {
			t.Error(i, kind)
		}
	}
}

// Each method at each place with each sub-order, with and without a source to copy.
func TestEachTriple(t *testing.T) {
	asked := map[int]int{}
	for _, method := range append([]string{"", "DELETE ", "\xff"}, allMethods...) {
		for _, target := range targets {
			for _, sub := range slices.Concat([]string{"", "x", "Cors", "%63ors", "cors%20", "uploadid", "versionId=null", "ACL"}, subOrders, leftOut) {
				for _, value := range []string{"", "=", "=1", "=a&x=cors", "=a&partNumber=1"} {
					for _, headers := range [][]string{nil, {"x-amz-copy-source", "src/s"}, {"X-Amz-Copy-Source", "src/s"}} {
						r := ask(method, target+"?"+sub+value, headers...)
						for _, data := range []string{"", "x", copyDocument, stateDocument, corsDocument, namesDocument, tagsDocument, partsDocument} {
							o, _ := agrees(t, r, []byte(data))
							asked[o.Kind]++
						}
					}
				}
			}
		}
	}
	for kind := range 29 {
		if asked[kind] == 0 {
			t.Error("nobody asks", kind)
		}
	}
}

func TestWhatIsNotAllowed(t *testing.T) {
	for _, s := range []string{"PATCH /abc", "get /abc", "GET //k", "PUT //k", "DELETE //k?versionId=x", "HEAD /", "PUT /", "POST /", "DELETE /", "POST /abc", "POST /abc/k", "GET /?location", "GET /?versions", "GET /?uploads", "PUT /abc?location", "HEAD /abc?versioning", "DELETE /abc?versioning", "POST /abc?cors", "PUT /abc?versions", "POST /abc?uploads", "GET /abc?delete", "PUT /abc?delete", "GET /abc?tagging", "GET /abc?uploadId=u", "GET /abc/k?location", "PUT /abc/k?versioning", "GET /abc/k?cors", "GET /abc/k?versions", "GET /abc/k?uploads", "PUT /abc/k?uploads", "POST /abc/k?delete", "HEAD /abc/k?tagging", "POST /abc/k?tagging", "HEAD /abc/k?uploadId=u", " /abc", "GET  /abc"} {
		i := strings.LastIndex(s, " ")
		refuses(t, ask(s[:i], s[i+1:]), "", api.ErrMethodNotAllowed)
		refuses(t, ask(s[:i], s[i+1:]), "no document", api.ErrMethodNotAllowed)
	}
}

func TestTwoSubOrders(t *testing.T) {
	for _, method := range []string{"GET", "PUT", "PATCH", "POST"} {
		for _, target := range targets {
			for _, one := range subOrders {
				for _, two := range subOrders {
					for _, query := range []string{one + "&" + two, one + "=1&x&" + two + "=2", one + "&&" + two + "="} {
						refuses(t, ask(method, target+"?"+query), "", api.ErrInvalidArgument)
					}
				}
				refuses(t, ask(method, target+"?"+one+"&"+one+"&"+one), "", api.ErrInvalidArgument)
			}
		}
	}
}

// What is not implemented is told ahead of two sub-orders and of methods, behind what is wrong with the place.
func TestWhatIsNotImplemented(t *testing.T) {
	for _, method := range []string{"GET", "PUT", "HEAD", "PATCH", ""} {
		for _, name := range leftOut {
			for _, target := range targets {
				for _, query := range []string{name, name + "=", name + "=1", "x&" + name, name + "&" + name, "cors&" + name, name + "&cors", "cors&versions&" + name, "cors&cors&" + name, name + "&acl", "versionId=%&" + name} {
					refuses(t, ask(method, target+"?"+query), "", api.ErrNotImplemented)
				}
			}
			refuses(t, ask(method, "/ab?"+name), "", api.ErrInvalidBucketName)
			refuses(t, ask(method, "/%?"+name), "", api.ErrInvalidURI)
			refuses(t, ask(method, "/abc/"+strings.Repeat("k", 1025)+"?"+name), "", api.ErrKeyTooLongError)
		}
	}
	for _, name := range []string{"ACL", "acl%20", "%61cl", "acls", "ac", "", "=acl", "x=acl"} {
		orders(t, ask("GET", "/abc/k?"+name), "", "Get", api.Op{Bucket: "abc", Key: "k"})
	}
}

// OPTIONS is allowed wherever a place may be, whatever else is asked.
func TestOptions(t *testing.T) {
	for place, target := range targets {
		want := map[string]api.Op{"bucket": {Bucket: "abc"}, "key": {Bucket: "abc", Key: "k"}, "astray": {Key: "k"}}[place]
		for _, query := range []string{"", "?", "?cors", "?cors&cors", "?acl", "?acl&versions&cors", "?versionId=x", "?uploadId=", "?uploadId", "?max-keys=x", "?prefix=%", "?versionId=%", "?partNumber=0"} {
			for _, headers := range [][]string{nil, {"x-amz-copy-source", ""}, {"x-amz-tagging", "%"}, {"x-amz-metadata-directive", "x"}, {"x-amz-meta-a", strings.Repeat("v", 3000)}} {
				orders(t, ask("OPTIONS", target+query, headers...), "", "Allow", want)
				orders(t, ask("OPTIONS", target+query, headers...), "<X/>", "Allow", want)
			}
		}
	}
	refuses(t, ask("OPTIONS", "*"), "", api.ErrInvalidBucketName)
	refuses(t, ask("OPTIONS", "/%"), "", api.ErrInvalidURI)
	refuses(t, ask("OPTIONS", "/abc/%00"), "", api.ErrInvalidURI)
}

func TestNewBucket(t *testing.T) {
	for _, data := range []string{"", copyDocument, "<CreateBucketConfiguration></CreateBucketConfiguration>", "<CreateBucketConfiguration>x</CreateBucketConfiguration>", "<?xml version=\"1.0\"?>\n <CreateBucketConfiguration xmlns=\"a\"><LocationConstraint>eu</LocationConstraint><X/></CreateBucketConfiguration>\r\n"} {
		orders(t, ask("PUT", "/abc"), data, "Make", api.Op{Bucket: "abc"})
	}
	for _, data := range []string{" ", "x", "<X/>", "<createBucketConfiguration/>", "<CreateBucketConfiguration>", "<CreateBucketConfigurations/>", "<CreateBucketConfiguration/>x", "<a:CreateBucketConfiguration/>", "<X><CreateBucketConfiguration/></X>", corsDocument, "\x00", "<CreateBucketConfiguration>" + strings.Repeat(" ", 65536) + "</CreateBucketConfiguration>"} {
		refuses(t, ask("PUT", "/abc"), data, api.ErrMalformedXML)
	}
	const tags = len("<CreateBucketConfiguration></CreateBucketConfiguration>")
	orders(t, ask("PUT", "/abc"), "<CreateBucketConfiguration>"+strings.Repeat("x", 65536-tags)+"</CreateBucketConfiguration>", "Make", api.Op{Bucket: "abc"})
	refuses(t, ask("PUT", "/abc"), "<CreateBucketConfiguration>"+strings.Repeat("x", 65537-tags)+"</CreateBucketConfiguration>", api.ErrMalformedXML)
}

// Each document at each row: a row that has none takes whatever its data is.
func TestDocumentsOfRows(t *testing.T) {
	documents := []string{"", "x", "<X/>", copyDocument, stateDocument, corsDocument, namesDocument, tagsDocument, partsDocument, "<Tagging><TagSet><Tag><Key/><Value/></Tag></TagSet></Tagging>", "<Delete/>", "<VersioningConfiguration/>", "\xff\x00"}
	for _, l := range rows() {
		r, own := whole(l)
		for _, data := range documents {
			o, e := agrees(t, r, []byte(data))
			switch {
			case own == "" || data == own || l.name == "Make" && data == "" || l.name == "PutVersioning" && data == "<VersioningConfiguration/>":
				if e != api.OK || o.Kind != l.kind || string(o.Body) != data {
					t.Error(l, data, o, e)
				}
			case l.name == "PutTags" && strings.Contains(data, "<Key/>"):
				if e != api.ErrInvalidTag {
					t.Error(l, data, e)
				}
			case e != api.ErrMalformedXML:
				t.Error(l, data, e)
			}
		}
	}
}

// 20.4

func TestKind(t *testing.T) {
	names := map[int]string{}
	for _, l := range rows() {
		names[l.kind] = l.name
	}
	for _, n := range append([]int{math.MinInt, math.MaxInt, 1 << 32, 1<<32 + 1, -1 << 32}, numbersFrom(-300, 300)...) {
		if Kind(n) != names[n] {
			t.Error(n, Kind(n))
		}
	}
}

func numbersFrom(a, b int) []int {
	var l []int
	for n := a; n <= b; n++ {
		l = append(l, n)
	}
	return l
}

// The examples of the chapter, with a bucket's name that may be one.
func TestExamples(t *testing.T) {
	orders(t, ask("GET", "/abc/k?versionId=null"), "", "Get", api.Op{Bucket: "abc", Key: "k", Version: "null"})
	refuses(t, ask("GET", "/?acl"), "", api.ErrNotImplemented)
	refuses(t, ask("GET", "/abc?versions&cors"), "", api.ErrInvalidArgument)
	refuses(t, ask("PATCH", "/abc"), "", api.ErrMethodNotAllowed)
	for _, target := range []string{"/b/k?versionId=null", "/b?versions&cors", "/b"} {
		refuses(t, ask("GET", target), "", api.ErrInvalidBucketName)
	}
}

// fault is a change of a request by which a call must tell an error.
type fault struct {
	e      api.Errno
	change func(r *api.Request, data *string)
}

func pair(p string) func(r *api.Request, data *string) {
	return func(r *api.Request, _ *string) { r.Target += "&" + p }
}

func headed(name, value string) func(r *api.Request, data *string) {
	return func(r *api.Request, _ *string) {
		r.Headers = slices.DeleteFunc(r.Headers, func(h api.Header) bool { return h.Name == name })
		r.Headers = append(r.Headers, api.Header{Name: name, Value: value})
	}
}

// path changes what stands ahead of the query.
func path(change func(path string) string) func(r *api.Request, data *string) {
	return func(r *api.Request, _ *string) {
		path, query, _ := strings.Cut(r.Target, "?")
		r.Target = change(path) + "?" + query
	}
}

func behind(piece string) func(r *api.Request, data *string) {
	return path(func(path string) string { return path + piece })
}

// faultsOf tells the faults that may be made of a row, in the order in which they are told.
func faultsOf(l row) []fault {
	all := []fault{{api.ErrInvalidURI, behind("%")}}
	if l.place != "neither" {
		all = append(all,
			fault{api.ErrInvalidBucketName, path(func(path string) string { return strings.Replace(path, "abc", "ab", 1) })},
			fault{api.ErrKeyTooLongError, behind("/" + strings.Repeat("x", 2000))},
			fault{api.ErrInvalidURI, behind("/\x00")})
	}
	if l.name == "Allow" {
		return all
	}
	all = append(all,
		fault{api.ErrNotImplemented, pair("acl")},
		fault{api.ErrInvalidArgument, pair("versions&cors")},
		fault{api.ErrMethodNotAllowed, func(r *api.Request, _ *string) { r.Method = "PATCH" }})
	for _, what := range strings.Split(l.more, ",") {
		switch what {
		case "version":
			all = append(all, fault{api.ErrInvalidArgument, pair("versionId=x")})
		case "q":
			all = append(all, fault{api.ErrInvalidArgument, pair("prefix=%")})
		case "attrs":
			all = append(all, fault{api.ErrInvalidArgument, headed("x-amz-meta-a", strings.Repeat("v", 2048))})
			all = append(all, fault{api.ErrInvalidTag, headed("x-amz-tagging", "=")})
		case "source":
			all = append(all, fault{api.ErrInvalidArgument, headed("x-amz-copy-source", "x")})
		case "tags":
			all = append(all, fault{api.ErrInvalidTag, func(_ *api.Request, data *string) {
				*data = "<Tagging><TagSet><Tag><Key/><Value/></Tag></TagSet></Tagging>"
			}})
		case "bucket-document", "state", "rules", "names", "parts":
			all = append(all, fault{api.ErrMalformedXML, func(_ *api.Request, data *string) { *data = "<X/>" }})
		}
	}
	return all
}

// Each two faults of a row together: the one that is told first in the chapter is told.
func TestTheFirstFaultIsTold(t *testing.T) {
	for _, l := range rows() {
		all := faultsOf(l)
		for i, one := range all {
			for _, two := range all[i:] {
				for _, changes := range [][]fault{{one, two}, {two, one}} {
					r, data := whole(l)
					if l.name == "Copy" {
						r.Headers = append(r.Headers, api.Header{Name: "x-amz-metadata-directive", Value: "REPLACE"})
					}
					for _, c := range changes {
						c.change(&r, &data)
					}
					if o, e := agrees(t, r, []byte(data)); e != one.e || !same(o, api.Op{}) {
						t.Errorf("%s: %.200q: %+v %d, not %d", l.name, r, o, e, one.e)
					}
				}
			}
		}
	}
}
