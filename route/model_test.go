package route

import (
	"encoding/base64"
	"net/url"
	"reflect"
	"regexp"
	"slices"
	"sort"
	"strconv"
	"strings"
	"testing"
	"unicode/utf8"

	"stowage/api"
	"stowage/body"
	"stowage/xml"
)

// This file reads chapter 20 a second time, by its table as a text, by patterns, and by the library's escapes.

// table is that of 20.2: number, name, method, place, sub-order, and what belongs to it.
const table = `
1 Buckets GET neither none -
2 Make PUT bucket none bucket-document
3 Drop DELETE bucket none -
4 Has HEAD bucket none -
5 Where GET bucket location -
6 GetVersioning GET bucket versioning -
7 PutVersioning PUT bucket versioning state
8 GetCors GET bucket cors -
9 PutCors PUT bucket cors rules
10 DropCors DELETE bucket cors -
11 List GET bucket none q
12 Versions GET bucket versions q
13 Uploads GET bucket uploads q
14 Erase POST bucket delete names
15 Put PUT key none attrs
16 Copy PUT key none attrs,source
17 Get GET key none version
18 Head HEAD key none version
19 Delete DELETE key none version
20 GetTags GET key tagging version
21 PutTags PUT key tagging version,tags
22 DropTags DELETE key tagging version
23 Begin POST key uploads attrs
24 Part PUT key uploadId upload,number
25 Complete POST key uploadId upload,parts
26 Abort DELETE key uploadId upload
27 Parts GET key uploadId upload,q
28 Allow OPTIONS - - -
`

type row struct {
	kind                           int
	name, method, place, sub, more string
}

func rows() []row {
	var l []row
	for _, s := range strings.Split(strings.TrimSpace(table), "\n") {
		f := strings.Fields(s)
		n, _ := strconv.Atoi(f[0])
		l = append(l, row{n, f[1], f[2], f[3], f[4], f[5]})
	}
	return l
}

func rowOf(kind int) row {
	return rows()[kind-1]
}

var (
	subOrders  = strings.Fields("location versioning cors versions uploads delete tagging uploadId")
	leftOut    = strings.Fields("acl policy lifecycle website logging notification encryption replication torrent restore select")
	allMethods = strings.Fields("GET HEAD PUT POST DELETE OPTIONS PATCH TRACE CONNECT get put options Get")
)

var (
	partsOfTarget = regexp.MustCompile(`(?s)\A([^?]*)(?:\?(.*))?\z`)
	wrongEscape   = regexp.MustCompile(`(?s)%(.?\z|[^0-9A-Fa-f]|.[^0-9A-Fa-f])`)
	escape        = regexp.MustCompile(`%[0-9A-Fa-f]{2}`)
	hostForm      = regexp.MustCompile(`(?s)\A([^:]+)\.[sS]3\.[lL][oO][cC][aA][lL](?::.*)?\z`)
	bucketForm    = regexp.MustCompile(`\A[a-z0-9][a-z0-9.-]{1,61}[a-z0-9]\z`)
	addressForm   = regexp.MustCompile(`\A([0-9]+\.){3}[0-9]+\z`)
	numberForm    = regexp.MustCompile(`\A(0|[1-9][0-9]{0,17})\z`)
	versionForm   = regexp.MustCompile(`\A(null|[0-7][0-9a-f]{15})\z`)
	sourceForm    = regexp.MustCompile(`(?s)\A/?([^?]*)(?:\?(.*))?\z`)
	placeForm     = regexp.MustCompile(`(?s)\A([^/]*)/(.*)\z`)
)

func mayBeBucket(s string) bool {
	return bucketForm.MatchString(s) && !strings.Contains(s, "..") && !addressForm.MatchString(s)
}

func mayBeKey(s string) bool {
	return utf8.ValidString(s) && s != "" && len(s) <= 1024 && !strings.Contains(s, "\x00")
}

// unescaped turns escapes alone; a plus sign stays.
func unescaped(s string) (string, bool) {
	if wrongEscape.MatchString(s) {
		return "", false
	}
	return escape.ReplaceAllStringFunc(s, func(e string) string {
		n, _ := strconv.ParseUint(e[1:], 16, 8)
		return string([]byte{byte(n)})
	}), true
}

func mayBeInDocument(s string) bool {
	for i, r := range s {
		if _, size := utf8.DecodeRuneInString(s[i:]); r == utf8.RuneError && size == 1 {
			return false
		}
		if r < 0x20 && r != 9 && r != 0xA && r != 0xD || r == 0xFFFE || r == 0xFFFF {
			return false
		}
	}
	return true
}

func header(r api.Request, name string) (string, bool) {
	i := slices.IndexFunc(r.Headers, func(h api.Header) bool { return h.Name == name })
	if i < 0 {
		return "", false
	}
	return r.Headers[i].Value, true
}

// pairs are those of a text such as a query, as they stand.
func pairs(s string) [][2]string {
	var l [][2]string
	for _, p := range strings.Split(s, "&") {
		if p != "" {
			name, value, _ := strings.Cut(p, "=")
			l = append(l, [2]string{name, value})
		}
	}
	return l
}

func queryOf(r api.Request) [][2]string {
	return pairs(partsOfTarget.FindStringSubmatch(r.Target)[2])
}

// placeModel is what 20.1 says.
func placeModel(r api.Request) (bucket, key string, e api.Errno) {
	path, ok := unescaped(partsOfTarget.FindStringSubmatch(r.Target)[1])
	if !ok {
		return "", "", 331
	}
	if path != "" && path[0] == '/' {
		path = path[1:]
	}
	host, _ := header(r, "host")
	if m := hostForm.FindStringSubmatch(host); m != nil {
		bucket = regexp.MustCompile(`[A-Z]`).ReplaceAllStringFunc(m[1], strings.ToLower)
		key = path
	} else if m := placeForm.FindStringSubmatch(path); m != nil {
		bucket, key = m[1], m[2]
	} else {
		bucket = path
	}
	if bucket != "" && !mayBeBucket(bucket) {
		return "", "", 318
	}
	if len(key) > 1024 {
		return "", "", 325
	}
	if key != "" && !mayBeKey(key) {
		return "", "", 331
	}
	return bucket, key, 0
}

// kindModel is what 20.2 says of the kind.
func kindModel(r api.Request, bucket, key string) (int, api.Errno) {
	if r.Method == "OPTIONS" {
		return 28, 0
	}
	var subs []string
	for _, p := range queryOf(r) {
		if slices.Contains(leftOut, p[0]) {
			return 0, 335
		}
		if slices.Contains(subOrders, p[0]) {
			subs = append(subs, p[0])
		}
	}
	if len(subs) > 1 {
		return 0, 319
	}
	place := map[[2]bool]string{{false, false}: "neither", {true, false}: "bucket", {true, true}: "key"}[[2]bool{bucket != "", key != ""}]
	sub := strings.Join(append(subs, "none")[:1], "")
	for _, l := range rows() {
		if l.method == r.Method && l.place == place && l.sub == sub {
			if _, copies := header(r, "x-amz-copy-source"); copies && l.kind == 15 {
				return 16, 0
			}
			return l.kind, 0
		}
	}
	return 0, 309
}

// told is a query's values, of which one that is wrong spoils the call.
type told struct {
	pairs [][2]string
	wrong bool
}

func (v *told) value(name string) (string, bool) {
	for _, p := range v.pairs {
		if p[0] == name {
			s, err := url.QueryUnescape(p[1])
			v.wrong = v.wrong || err != nil
			return s, true
		}
	}
	return "", false
}

func (v *told) valueOf(name string) string {
	s, _ := v.value(name)
	return s
}

func (v *told) number(name string, missing int) int {
	s, there := v.value(name)
	if !there {
		return missing
	}
	v.wrong = v.wrong || !numberForm.MatchString(s)
	n, _ := strconv.Atoi(s)
	return n
}

// queryModel is what 20.3 says of Q.
func queryModel(v *told, kind int) (q api.Query, v2 bool) {
	q.Prefix, q.Delim = v.valueOf("prefix"), v.valueOf("delimiter")
	q.Max = v.number(map[int]string{11: "max-keys", 12: "max-keys", 13: "max-uploads", 27: "max-parts"}[kind], 1000)
	if q.Max > 1000 {
		q.Max = 1000
	}
	switch kind {
	case 11:
		v2 = v.valueOf("list-type") == "2"
		if !v2 {
			q.Marker = v.valueOf("marker")
			break
		}
		q.After = v.valueOf("start-after")
		token, there := v.value("continuation-token")
		q.Token, q.Marker = token, q.After
		if there {
			b, err := base64.StdEncoding.Strict().DecodeString(token)
			v.wrong = v.wrong || err != nil || strings.ContainsAny(token, "\r\n")
			q.Marker = string(b)
		}
	case 12:
		q.Marker, q.Second = v.valueOf("key-marker"), v.valueOf("version-id-marker")
	case 13:
		q.Marker, q.Second = v.valueOf("key-marker"), v.valueOf("upload-id-marker")
	case 27:
		q.From = v.number("part-number-marker", 0)
	}
	v.wrong = v.wrong || q.Second != "" && q.Marker == "" || !mayBeInDocument(q.Prefix) || !mayBeInDocument(q.Delim) || !mayBeInDocument(q.Marker) || !mayBeInDocument(q.Second)
	return q, v2
}

// attrsModel is what 20.3 says of Attrs.
func attrsModel(r api.Request) (a api.Attrs, e api.Errno) {
	a.Type = "binary/octet-stream"
	if s, there := header(r, "content-type"); there {
		a.Type = s
	}
	byName := map[string][]string{}
	size := 0
	for _, h := range r.Headers {
		if strings.HasPrefix(h.Name, "x-amz-meta-") {
			byName[h.Name] = append(byName[h.Name], h.Value)
			size += len(h.Name + h.Value)
		}
	}
	if size > 2048 {
		return api.Attrs{}, 319
	}
	var names []string
	for name := range byName {
		names = append(names, name)
	}
	sort.Strings(names)
	for _, name := range names {
		for _, value := range byName[name] {
			a.Meta = append(a.Meta, api.Header{Name: name, Value: value})
		}
	}
	tagging, _ := header(r, "x-amz-tagging")
	for _, p := range pairs(tagging) {
		key, err := url.QueryUnescape(p[0])
		value, err2 := url.QueryUnescape(p[1])
		if err != nil || err2 != nil {
			return api.Attrs{}, 319
		}
		a.Tags = append(a.Tags, api.Tag{Key: key, Value: value})
	}
	keys := map[string]int{}
	for _, t := range a.Tags {
		keys[t.Key]++
		if t.Key == "" || utf8.RuneCountInString(t.Key) > 128 || utf8.RuneCountInString(t.Value) > 256 || !utf8.ValidString(t.Key+"/"+t.Value) {
			return api.Attrs{}, 333
		}
	}
	if len(a.Tags) > 10 || len(keys) < len(a.Tags) {
		return api.Attrs{}, 333
	}
	return a, 0
}

// sourceModel is what 20.3 says of Source.
func sourceModel(r api.Request) (api.Source, api.Errno) {
	value, _ := header(r, "x-amz-copy-source")
	m := sourceForm.FindStringSubmatch(value)
	if m == nil {
		return api.Source{}, 319
	}
	path, ok := unescaped(m[1])
	place := placeForm.FindStringSubmatch(path)
	if !ok || place == nil || !mayBeBucket(place[1]) || !mayBeKey(place[2]) {
		return api.Source{}, 319
	}
	pair, ok := unescaped(m[2])
	version, named := strings.CutPrefix(pair, "versionId=")
	if strings.Contains(value, "?") {
		if !ok || !named || !versionForm.MatchString(version) {
			return api.Source{}, 319
		}
	}
	return api.Source{Bucket: place[1], Key: place[2], Version: version}, 0
}

// dataModel is what 20.2 says of data.
func dataModel(o *api.Op, more, s string) (e api.Errno) {
	switch more {
	case "bucket-document":
		if s != "" {
			n, wrong := xml.Parse(s)
			if wrong != 0 || n.Name != "CreateBucketConfiguration" {
				e = 326
			}
		}
	case "state":
		o.State, e = body.Versioning(s)
	case "rules":
		o.Rules, e = body.Cors(s)
	case "names":
		o.Quiet, o.Names, e = body.Delete(s)
	case "tags":
		o.Tags, e = body.Tags(s)
	case "parts":
		o.Parts, e = body.Complete(s)
	}
	return e
}

// model is what chapter 20 says of Of.
func model(r api.Request, data []byte) (api.Op, api.Errno) {
	bucket, key, e := placeModel(r)
	if e != 0 {
		return api.Op{}, e
	}
	kind, e := kindModel(r, bucket, key)
	if e != 0 {
		return api.Op{}, e
	}
	o := api.Op{Kind: kind, Bucket: bucket, Key: key, Body: slices.Clone(data)}
	v := &told{pairs: queryOf(r)}
	e = 0
	fault := func(other api.Errno) {
		if e == 0 {
			e = other
		}
	}
	belongs := strings.Split(rowOf(kind).more, ",")
	has := func(what string) bool { return slices.Contains(belongs, what) }
	if has("version") {
		s, there := v.value("versionId")
		o.Version = s
		v.wrong = v.wrong || there && !versionForm.MatchString(s)
	}
	if has("upload") {
		s, there := v.value("uploadId")
		o.Upload = s
		v.wrong = v.wrong || there && s == ""
	}
	if has("number") {
		o.Number = v.number("partNumber", 0)
		v.wrong = v.wrong || o.Number < 1 || o.Number > 10000
	}
	if has("q") {
		o.Q, o.V2 = queryModel(v, kind)
	}
	if v.wrong {
		fault(319)
	}
	directive, there := header(r, "x-amz-metadata-directive")
	if has("attrs") && (!has("source") || directive == "REPLACE") {
		a, wrong := attrsModel(r)
		o.Attrs = a
		fault(wrong)
	}
	if has("source") {
		s, wrong := sourceModel(r)
		o.Source = s
		fault(wrong)
		o.Replace = directive == "REPLACE"
		if there && directive != "COPY" && directive != "REPLACE" {
			fault(319)
		}
	}
	fault(dataModel(&o, belongs[len(belongs)-1], string(data)))
	if e != 0 {
		return api.Op{}, e
	}
	return o, 0
}

// even tells o with nil for lists that are empty, so that orders may be held against each other.
func even(o api.Op) api.Op {
	if len(o.Body) == 0 {
		o.Body = nil
	}
	if len(o.Attrs.Meta) == 0 {
		o.Attrs.Meta = nil
	}
	if len(o.Attrs.Tags) == 0 {
		o.Attrs.Tags = nil
	}
	if len(o.Tags) == 0 {
		o.Tags = nil
	}
	if len(o.Names) == 0 {
		o.Names = nil
	}
	if len(o.Parts) == 0 {
		o.Parts = nil
	}
	var rules []api.Rule
	for _, r := range o.Rules {
		rules = append(rules, api.Rule{Origins: append([]string(nil), r.Origins...), Methods: append([]string(nil), r.Methods...), Allow: append([]string(nil), r.Allow...), Expose: append([]string(nil), r.Expose...), Age: r.Age})
	}
	o.Rules = rules
	return o
}

func same(a, b api.Op) bool {
	return reflect.DeepEqual(even(a), even(b))
}

// ask makes a request.
func ask(method, target string, headers ...string) api.Request {
	r := api.Request{Method: method, Target: target}
	for i := 0; i+1 < len(headers); i += 2 {
		r.Headers = append(r.Headers, api.Header{Name: headers[i], Value: headers[i+1]})
	}
	return r
}

// agrees holds Place and Of against the model, and tells what Of tells.
func agrees(t *testing.T, r api.Request, data []byte) (api.Op, api.Errno) {
	t.Helper()
	b, k, e := Place(r)
	wantB, wantK, wantE := placeModel(r)
	if b != wantB || k != wantK || e != wantE {
		t.Fatalf("Place of %.300q: %q %q %d, not %q %q %d", r, b, k, e, wantB, wantK, wantE)
	}
	o, e := Of(r, data)
	want, wantE := model(r, data)
	if e != wantE || !same(o, want) {
		t.Fatalf("Of of %.300q %.200q: %+v %d, not %+v %d", r, data, o, e, want, wantE)
	}
	return o, e
}

// orders tells what Of must tell: want, whose Kind is told by its name, with the Body that was handed in.
func orders(t *testing.T, r api.Request, data, kind string, want api.Op) {
	t.Helper()
	for _, l := range rows() {
		if l.name == kind {
			want.Kind = l.kind
		}
	}
	want.Body = []byte(data)
	if o, e := agrees(t, r, []byte(data)); e != api.OK || !same(o, want) {
		t.Errorf("%.300q %.200q: %+v %d, not %+v", r, data, o, e, want)
	}
}

// refuses tells that Of must tell an error.
func refuses(t *testing.T, r api.Request, data string, want api.Errno) {
	t.Helper()
	if o, e := agrees(t, r, []byte(data)); e != want || !same(o, api.Op{}) {
		t.Errorf("%.300q %.200q: %+v %d, not %d", r, data, o, e, want)
	}
}
