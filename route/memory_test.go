package route

import (
	"math/rand/v2"
	"slices"
	"strings"
	"testing"

	"stowage/api"
)

// 20.6, and the rules of the whole

// everything asks for all that an order may have.
func everything(l row) (api.Request, string) {
	r, data := whole(l)
	r.Target += "&versionId=null&prefix=p&marker=m&key-marker=m&version-id-marker=v&upload-id-marker=u&max-keys=3&part-number-marker=2"
	r = with(r, "host", "s3.local", "content-type", "t", "x-amz-meta-b", "1", "x-amz-meta-a", "2", "x-amz-tagging", "b=2&a=1", "x-amz-metadata-directive", "REPLACE")
	if data == "" {
		data = "data"
	}
	return r, data
}

func TestWhatIsHandedInIsLeftAlone(t *testing.T) {
	for _, l := range rows() {
		r, text := everything(l)
		spare := append(slices.Clone(r.Headers), api.Header{Name: "spare", Value: "room"}, api.Header{Name: "x-amz-meta-0", Value: "room"})
		data := []byte(text + "spare room")
		before, bytes := slices.Clone(spare), slices.Clone(data)
		r.Headers = spare[:len(r.Headers)]
		for range 2 {
			o, e := Of(r, data[:len(text)])
			if want, f := model(r, []byte(text)); e != f || !same(o, want) {
				t.Error(l, o, e)
			}
			Place(r)
			if !slices.Equal(spare, before) || !slices.Equal(data, bytes) {
				t.Error(l, spare, string(data))
			}
		}
	}
}

// What was told stays when what was handed in changes, and the other way round; spare room too.
func TestWhatIsToldIsNewMemory(t *testing.T) {
	for _, l := range rows() {
		r, text := everything(l)
		data := append(make([]byte, 0, 3*len(text)), text...)
		o, e := Of(r, data)
		other, _ := Of(r, data)
		if e != api.OK {
			t.Fatal(l, e)
		}
		want, _ := model(r, data)
		spoil(&other)
		if !same(o, want) {
			t.Error(l, "two answers share memory")
		}
		if again, _ := Of(r, data); !same(again, want) {
			t.Error(l, "what was told was kept")
		}
		whole, wide := slices.Clone(r.Headers), data[:cap(data)]
		spoil(&o)
		if !slices.Equal(r.Headers, whole) || string(data) != text || strings.Trim(string(wide[len(text):]), "\x00") != "" {
			t.Error(l, "an answer shares memory with what was handed in")
		}
		o, _ = Of(r, data)
		for i := range wide {
			wide[i] = 'z'
		}
		for i := range r.Headers {
			r.Headers[i] = api.Header{Name: "z", Value: "z"}
		}
		if !same(o, want) {
			t.Error(l, "an answer changes with what was handed in")
		}
	}
}

// spoil writes over all lists of an answer, and their spare room.
func spoil(o *api.Op) {
	over(o.Body, 'z')
	over(o.Attrs.Meta, api.Header{Name: "z"})
	over(o.Attrs.Tags, api.Tag{Key: "z"})
	over(o.Tags, api.Tag{Key: "z"})
	over(o.Names, api.Named{Key: "z"})
	over(o.Parts, api.PartRef{Number: 9})
	for _, r := range o.Rules {
		over(r.Origins, "z")
		over(r.Methods, "z")
		over(r.Allow, "z")
		over(r.Expose, "z")
	}
	over(o.Rules, api.Rule{Age: 9})
}

func over[T any](l []T, with T) {
	l = l[:cap(l)]
	for i := range l {
		l[i] = with
	}
}

func TestNilAndEmpty(t *testing.T) {
	for _, l := range rows() {
		r, text := whole(l)
		if len(r.Headers) == 0 {
			some := r
			some.Headers, some.Body = []api.Header{}, []byte{}
			o, e := Of(r, []byte(text))
			other, f := Of(some, []byte(text))
			if e != f || !same(o, other) {
				t.Error(l, o, other)
			}
		}
		o, e := Of(r, nil)
		other, f := Of(r, []byte{})
		if e != f || !same(o, other) {
			t.Error(l, o, e, other, f)
		}
	}
	refuses(t, api.Request{}, "", api.ErrMethodNotAllowed)
}

// Of is told its data; the request's own body is the one that it came with, which may be in chunks.
func TestBodyIsData(t *testing.T) {
	for _, l := range rows() {
		r, data := whole(l)
		r.Body = []byte("another body")
		if o, e := agrees(t, r, []byte(data)); e != api.OK || string(o.Body) != data {
			t.Error(l, o, e)
		}
	}
	for _, data := range []string{"", "data", "\x00\xff", strings.Repeat("d", 1<<20)} {
		orders(t, ask("PUT", "/abc/k", "content-length", "7"), data, "Put", api.Op{Bucket: "abc", Key: "k", Attrs: api.Attrs{Type: "binary/octet-stream"}})
		orders(t, ask("PUT", "/abc/k?uploadId=u&partNumber=1"), data, "Part", api.Op{Bucket: "abc", Key: "k", Upload: "u", Number: 1})
	}
}

// pieces are what requests of noise are made of.
var (
	pathPieces   = []string{"/", "abc", "k", "a.b-c", "%2F", "%", "%00", "%ff", "+", "*", "ab", "A", "\u20ac", "%e2%82%ac", "//"}
	pairPieces   = slices.Concat(subOrders, []string{"acl", "versionId=null", "versionId=x", "versionId=0000000000000007", "uploadId=u", "partNumber=1", "partNumber=0", "prefix=a+%2B", "prefix=%01", "delimiter=/", "max-keys=5", "max-keys=x", "max-uploads=7", "max-parts=2000", "list-type=2", "list-type=1", "continuation-token=aw%3D%3D", "continuation-token=x", "start-after=s", "marker=m", "key-marker=k", "version-id-marker=v", "upload-id-marker=u", "part-number-marker=3", "x", "", "=", "a=b=c", "prefix=%", "marker", "?"})
	headerPieces = []string{"host:s3.local", "host:abc.s3.local", "host:A_b.s3.local:1", "content-type:t", "content-type:", "x-amz-meta-a:1", "x-amz-meta-b:2", "x-amz-meta-a:0", "x-amz-meta-c:" + strings.Repeat("v", 2020), "x-amz-tagging:a=1&b=2", "x-amz-tagging:a&a", "x-amz-tagging:%", "x-amz-tagging:%00=%1f&%ef%bf%bf", "x-amz-tagging:%ff", "x-amz-copy-source:/src/s", "x-amz-copy-source:src/s?versionI%64%3Dnull", "x-amz-copy-source:src/s?versionId=null", "x-amz-copy-source:src", "x-amz-metadata-directive:COPY", "x-amz-metadata-directive:REPLACE", "x-amz-metadata-directive:x", "y:z"}
	dataPieces   = []string{"", "x", copyDocument, stateDocument, corsDocument, namesDocument, tagsDocument, partsDocument, "<Tagging><TagSet><Tag><Key/><Value/></Tag></TagSet></Tagging>"}
)

func TestNoise(t *testing.T) {
	rnd := rand.New(rand.NewPCG(20, 6))
	pick := func(l []string) string { return l[rnd.IntN(len(l))] }
	kinds, faults := map[int]int{}, map[api.Errno]int{}
	for range 120000 {
		r := api.Request{Method: pick(allMethods[:7]), Target: pick([]string{"/", "/abc", "/abc/k", "/abc/k", ""})}
		for range rnd.IntN(3) * rnd.IntN(2) {
			r.Target += pick(pathPieces)
		}
		for i := range rnd.IntN(5) {
			r.Target += "?&&&&"[i:i+1] + pick(pairPieces)
		}
		for range rnd.IntN(5) {
			name, value, _ := strings.Cut(pick(headerPieces), ":")
			r.Headers = append(r.Headers, api.Header{Name: name, Value: value})
		}
		o, e := agrees(t, r, []byte(pick(dataPieces)))
		kinds[o.Kind]++
		faults[e]++
	}
	if len(kinds) != 29 || len(faults) != 8 {
		t.Error(kinds, faults)
	}
}

// Each byte of whole requests changed, left out and doubled.
func TestEachByteChanged(t *testing.T) {
	for _, l := range rows() {
		r, data := everything(l)
		for i := range r.Target {
			for _, piece := range []string{"", "%", "+", "&", "=", "?", "/", "x", "A", "0", "\x00", "\xff", r.Target[i:i+1] + r.Target[i:i+1]} {
				changed := r
				changed.Target = r.Target[:i] + piece + r.Target[i+1:]
				agrees(t, changed, []byte(data))
			}
		}
		for n, h := range r.Headers {
			for i := range h.Value {
				for _, piece := range []string{"", "%", "+", "&", "=", "?", "/", ":", "\x00", "\xff"} {
					changed := r
					changed.Headers = slices.Clone(r.Headers)
					changed.Headers[n].Value = h.Value[:i] + piece + h.Value[i+1:]
					agrees(t, changed, []byte(data))
				}
			}
			for i := range h.Name {
				changed := r
				changed.Headers = slices.Clone(r.Headers)
				changed.Headers[n].Name = h.Name[:i] + h.Name[i+1:]
				agrees(t, changed, []byte(data))
				changed.Headers[n].Name = h.Name[:i] + strings.ToUpper(h.Name[i:i+1]) + h.Name[i+1:]
				agrees(t, changed, []byte(data))
			}
		}
	}
}

func TestLongRequests(t *testing.T) {
	for _, method := range []string{"GET", "PUT", "POST", "OPTIONS"} {
		for _, piece := range []string{"/", "%", "%2F", "k", "?", "&", "=", "&x", "&cors", "&prefix=a", "+", "\x00"} {
			for _, r := range longRequests(method, strings.Repeat(piece, 1<<15/len(piece))) {
				agrees(t, r, nil)
			}
			for _, r := range longRequests(method, strings.Repeat(piece, 1<<18/len(piece))) {
				Place(r)
				Of(r, []byte(r.Target))
			}
		}
	}
	r := ask("PUT", "/abc/k")
	for range 1 << 15 {
		r.Headers = append(r.Headers, api.Header{Name: "x-amz-meta-", Value: "v"}, api.Header{Name: "y"})
	}
	refuses(t, r, "", api.ErrInvalidArgument)
}

// longRequests have the long text at each of the places where a text may stand.
func longRequests(method, long string) []api.Request {
	return []api.Request{
		ask(method, long),
		ask(method, "/abc?"+long),
		ask(method, "/abc?versions&prefix="+long),
		ask(method, "/", "host", long+".s3.local"),
		ask(method, "/abc/k", "x-amz-tagging", long, "x-amz-meta-a", long),
		ask(method, "/abc/k", "x-amz-tagging", long),
		ask(method, "/abc/k", "x-amz-copy-source", long),
		ask(method, "/abc/k", "content-type", long),
	}
}
