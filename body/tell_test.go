package body

import (
	"math"
	"slices"
	"strconv"
	"strings"
	"testing"
	"time"

	"stowage/api"
	"stowage/xml"
)

// printed tells the document of n without its first line.
func printed(t *testing.T, n xml.Node) string {
	t.Helper()
	s, e := xml.Print(n, false)
	if e != api.OK {
		t.Fatalf("%v: %v", n, e)
	}
	_, s, _ = strings.Cut(s, "\n")
	return s
}

// tells holds what n prints against the kids that are wanted in its outermost element.
func tells(t *testing.T, n xml.Node, outer string, kids ...string) {
	t.Helper()
	if s, want := printed(t, n), el(outer, kids...); s != want {
		t.Errorf("%s\nnot %s", s, want)
	}
}

// leaf writes an element that says a text.
func leaf(name, s string) string {
	return el(name, xml.Escape(s))
}

// leafIf writes it only where the text is not empty.
func leafIf(name, s string) string {
	if s == "" {
		return ""
	}
	return leaf(name, s)
}

// leafOf writes one that says a number, only where that is not 0.
func leafOf(name string, n int) string {
	if n == 0 {
		return ""
	}
	return leaf(name, strconv.Itoa(n))
}

// isoOf is the time as the library writes it; of no time nothing.
func isoOf(sec int) string {
	if sec < 0 || sec > 253402300799 {
		return ""
	}
	return time.Unix(int64(sec), 0).UTC().Format("2006-01-02T15:04:05.000Z")
}

// idOf is a number in sixteen digits.
func idOf(n int) string {
	s := strconv.FormatInt(int64(max(n, 0)), 16)
	return strings.Repeat("0", 16-len(s)) + s
}

// The values that are put in where a text, a number or a time is told.
var (
	someTexts   = []string{"", "x", " ", "a&b<c>\"d'\r\n", "é€\U0001F600", "a/b/", "0"}
	someNumbers = []int{0, 1, -1, 1000, 999999999999999999, math.MaxInt, math.MinInt}
	someTimes   = []int{0, 1, 1369353600, 253402300799, 253402300800, -1, math.MaxInt, math.MinInt}
)

// ticks calls f with each way in which n things may be so or not.
func ticks(n int, f func(on func(i int) bool)) {
	for mask := range 1 << n {
		f(func(i int) bool { return mask>>i&1 == 1 })
	}
}

// textIf tells s where on holds.
func textIf(on bool, s string) string {
	if on {
		return s
	}
	return ""
}

// 15.2

func TestOfVersioning(t *testing.T) {
	for n, want := range map[int]string{0: "", 1: "<Status>Enabled</Status>", 2: "<Status>Suspended</Status>", 3: "", -1: "", math.MaxInt: "", math.MinInt: "", 1 + 1<<32: ""} {
		tells(t, OfVersioning(n), "VersioningConfiguration", want)
	}
}

func TestOfTags(t *testing.T) {
	tells(t, OfTags(nil), "Tagging", "<TagSet></TagSet>")
	tells(t, OfTags([]api.Tag{}), "Tagging", "<TagSet></TagSet>")
	for _, k := range someTexts {
		for _, v := range someTexts {
			tells(t, OfTags([]api.Tag{{Key: k, Value: v}, {Key: "b", Value: "2"}, {Key: k, Value: k}}), "Tagging", el("TagSet",
				el("Tag", leaf("Key", k), leaf("Value", v)),
				el("Tag", leaf("Key", "b"), leaf("Value", "2")),
				el("Tag", leaf("Key", k), leaf("Value", k))))
		}
	}
}

func TestOfCors(t *testing.T) {
	tells(t, OfCors(nil), "CORSConfiguration")
	tells(t, OfCors([]api.Rule{{}}), "CORSConfiguration", "<CORSRule></CORSRule>")
	ticks(4, func(on func(i int) bool) {
		var r api.Rule
		var want [4]string
		for i, l := range []*[]string{&r.Origins, &r.Methods, &r.Allow, &r.Expose} {
			if on(i) {
				name := []string{"AllowedOrigin", "AllowedMethod", "AllowedHeader", "ExposeHeader"}[i]
				*l = []string{"b" + strconv.Itoa(i), "a&", ""}
				want[i] = leaf(name, (*l)[0]) + leaf(name, "a&") + leaf(name, "")
			}
		}
		for _, n := range someNumbers {
			r.Age = n
			rule := el("CORSRule", want[0], want[1], want[2], want[3], leafOf("MaxAgeSeconds", n))
			tells(t, OfCors([]api.Rule{r}), "CORSConfiguration", rule)
			tells(t, OfCors([]api.Rule{r, {Methods: []string{"GET"}}, r}), "CORSConfiguration", rule, "<CORSRule><AllowedMethod>GET</AllowedMethod></CORSRule>", rule)
		}
	})
}

func TestOfBuckets(t *testing.T) {
	const whose = "<Owner><ID>stowage</ID></Owner>"
	tells(t, OfBuckets(nil), "ListAllMyBucketsResult", whose, "<Buckets></Buckets>")
	for _, s := range someTexts {
		for _, at := range someTimes {
			l := []api.Bucket{{Name: s, Created: at, Versioning: 1, Cors: []api.Rule{{Age: 1}}, Tags: []api.Tag{{Key: "a"}}}, {Name: "a"}}
			tells(t, OfBuckets(l), "ListAllMyBucketsResult", whose, el("Buckets",
				el("Bucket", leaf("Name", s), leaf("CreationDate", isoOf(at))),
				"<Bucket><Name>a</Name><CreationDate>1970-01-01T00:00:00.000Z</CreationDate></Bucket>"))
		}
	}
}

// someVersions are versions that differ in what is told of them.
func someVersions() []api.Version {
	l := []api.Version{{}}
	for _, at := range someTimes {
		l = append(l, api.Version{Key: "other", Seq: 9, ETag: "e", Size: 3, Time: at, Type: "t", Meta: []api.Header{{Name: "n"}}, Tags: []api.Tag{{Key: "a"}}, Ref: api.Ref{Start: 4, Size: 5}})
	}
	for _, n := range someNumbers {
		l = append(l, api.Version{Seq: n, Size: n})
	}
	for _, s := range someTexts {
		l = append(l, api.Version{Seq: 255, ETag: s}, api.Version{Seq: 255, Null: true, ETag: s})
	}
	return l
}

// items are some of a page, groups between them, and what is told of those that are none and of the groups.
func items(tell func(i api.Item) string) (l []api.Item, rest, groups []string) {
	for n, v := range someVersions() {
		for _, latest := range []bool{false, true} {
			l = append(l, api.Item{Name: "k" + strconv.Itoa(n) + "&", At: n, Version: v, Upload: api.Upload{Key: "other", Seq: v.Seq, Time: v.Time, Attrs: api.Attrs{Type: "t"}}, Latest: latest})
			v.Marker = true
			l = append(l, api.Item{Name: "", At: n, Version: v, Upload: api.Upload{Seq: v.Size, Time: v.Time}, Latest: latest})
			v.Marker = false
		}
		if n%3 == 0 {
			l = append(l, api.Item{Name: "g<" + strconv.Itoa(n) + "/", Group: true, Version: v, Latest: true}, api.Item{Group: true})
			groups = append(groups, el("CommonPrefixes", leaf("Prefix", "g<"+strconv.Itoa(n)+"/")), el("CommonPrefixes", leaf("Prefix", "")))
		}
	}
	for _, i := range l {
		if !i.Group {
			rest = append(rest, tell(i))
		}
	}
	return l, rest, groups
}

func ofData(v api.Version) string {
	return leaf("ETag", "\""+v.ETag+"\"") + leaf("Size", strconv.Itoa(v.Size)) + leaf("StorageClass", "STANDARD")
}

func TestOfListing(t *testing.T) {
	l, rest, groups := items(func(i api.Item) string {
		return el("Contents", leaf("Key", i.Name), leaf("LastModified", isoOf(i.Version.Time)), ofData(i.Version))
	})
	// One of the listings has each item, the others none, for which there would be no room.
	n := api.Listing{Bucket: "b", Items: l}
	tells(t, OfListing(n), "ListBucketResult", append(append([]string{"<Name>b</Name><Prefix></Prefix><Marker></Marker><MaxKeys>0</MaxKeys><IsTruncated>false</IsTruncated>"}, rest...), groups...)...)
	n.V2 = true
	tells(t, OfListing(n), "ListBucketResult", append(append([]string{"<Name>b</Name><Prefix></Prefix><KeyCount>0</KeyCount><MaxKeys>0</MaxKeys><IsTruncated>false</IsTruncated>"}, rest...), groups...)...)
	ticks(9, func(on func(i int) bool) {
		q := api.Query{Prefix: textIf(on(0), "p&"), Delim: textIf(on(1), "/"), Marker: textIf(on(2), "m<"), Second: "s", Token: textIf(on(3), "tok"), After: textIf(on(4), "a>"), From: 7}
		n := api.Listing{Bucket: textIf(on(5), "b"), Q: q, More: on(6), Next: textIf(on(7), "né"), Second: "z"}
		if on(8) {
			n.Count, n.Q.Max = 4, 1000
		}
		before := leaf("Name", n.Bucket) + leaf("Prefix", q.Prefix) + leafIf("Delimiter", q.Delim)
		limit := leaf("MaxKeys", strconv.Itoa(n.Q.Max)) + leaf("IsTruncated", strconv.FormatBool(n.More))
		tells(t, OfListing(n), "ListBucketResult", before, leaf("Marker", q.Marker), limit, leafIf("NextMarker", n.Next))
		n.V2 = true
		tells(t, OfListing(n), "ListBucketResult", before, leafIf("StartAfter", q.After), leafIf("ContinuationToken", q.Token), leaf("KeyCount", strconv.Itoa(n.Count)), limit, leafIf("NextContinuationToken", textIf(on(7), "bsOp")))
	})
	zero := api.Listing{Q: api.Query{Delim: "0", After: "0", Token: "0"}, Next: "0"}
	tells(t, OfListing(zero), "ListBucketResult", "<Name></Name><Prefix></Prefix><Delimiter>0</Delimiter><Marker></Marker><MaxKeys>0</MaxKeys><IsTruncated>false</IsTruncated><NextMarker>0</NextMarker>")
	zero.V2 = true
	tells(t, OfListing(zero), "ListBucketResult", "<Name></Name><Prefix></Prefix><Delimiter>0</Delimiter><StartAfter>0</StartAfter><ContinuationToken>0</ContinuationToken><KeyCount>0</KeyCount><MaxKeys>0</MaxKeys><IsTruncated>false</IsTruncated><NextContinuationToken>MA==</NextContinuationToken>")
	for _, m := range someNumbers {
		tells(t, OfListing(api.Listing{V2: true, Count: m, Q: api.Query{Max: m}}), "ListBucketResult", "<Name></Name><Prefix></Prefix>", leaf("KeyCount", strconv.Itoa(m)), leaf("MaxKeys", strconv.Itoa(m)), "<IsTruncated>false</IsTruncated>")
	}
}

// An item's groups come behind all others, in their order, and so do those of one that has nothing else.
func TestOfGroups(t *testing.T) {
	l := []api.Item{{Name: "b/", Group: true}, {Name: "a", Upload: api.Upload{Seq: 1}, Version: api.Version{Seq: 1}}, {Name: "a/", Group: true}}
	const groups = "<CommonPrefixes><Prefix>b/</Prefix></CommonPrefixes><CommonPrefixes><Prefix>a/</Prefix></CommonPrefixes>"
	for _, n := range []xml.Node{OfListing(api.Listing{Items: l}), OfListing(api.Listing{Items: l, V2: true}), OfVersions(api.Listing{Items: l}), OfUploads(api.Listing{Items: l})} {
		if s := printed(t, n); !strings.HasSuffix(s, groups+"</"+n.Name+">") || strings.Count(s, "<Key>") != 1 {
			t.Error(s)
		}
	}
	for _, n := range []xml.Node{OfListing(api.Listing{Items: l[:1]}), OfVersions(api.Listing{Items: l[:1]}), OfUploads(api.Listing{Items: l[:1]})} {
		if s := printed(t, n); !strings.HasSuffix(s, "</IsTruncated><CommonPrefixes><Prefix>b/</Prefix></CommonPrefixes></"+n.Name+">") {
			t.Error(s)
		}
	}
}

func TestOfVersions(t *testing.T) {
	l, rest, groups := items(func(i api.Item) string {
		name, data := "Version", ofData(i.Version)
		if i.Version.Marker {
			name, data = "DeleteMarker", ""
		}
		id := idOf(i.Version.Seq)
		if i.Version.Null {
			id = "null"
		}
		return el(name, leaf("Key", i.Name), leaf("VersionId", id), leaf("IsLatest", strconv.FormatBool(i.Latest)), leaf("LastModified", isoOf(i.Version.Time)), data)
	})
	tells(t, OfVersions(api.Listing{Items: l}), "ListVersionsResult", append(append([]string{"<Name></Name><Prefix></Prefix><KeyMarker></KeyMarker><VersionIdMarker></VersionIdMarker><MaxKeys>0</MaxKeys><IsTruncated>false</IsTruncated>"}, rest...), groups...)...)
	pages(t, OfVersions, "ListVersionsResult", "Name", "VersionIdMarker", "MaxKeys", "NextVersionIdMarker")
}

func TestOfUploads(t *testing.T) {
	l, rest, groups := items(func(i api.Item) string {
		return el("Upload", leaf("Key", i.Name), leaf("UploadId", idOf(i.Upload.Seq)), leaf("Initiated", isoOf(i.Upload.Time)))
	})
	tells(t, OfUploads(api.Listing{Items: l}), "ListMultipartUploadsResult", append(append([]string{"<Bucket></Bucket><Prefix></Prefix><KeyMarker></KeyMarker><UploadIdMarker></UploadIdMarker><MaxUploads>0</MaxUploads><IsTruncated>false</IsTruncated>"}, rest...), groups...)...)
	pages(t, OfUploads, "ListMultipartUploadsResult", "Bucket", "UploadIdMarker", "MaxUploads", "NextUploadIdMarker")
}

// pages asks for what stands ahead of the items, which is named alike for versions and for uploads but for these names.
func pages(t *testing.T, of func(l api.Listing) xml.Node, outer, bucket, second, limit, next string) {
	t.Helper()
	ticks(8, func(on func(i int) bool) {
		q := api.Query{Prefix: textIf(on(0), "p&"), Delim: textIf(on(1), "/"), Marker: textIf(on(2), "m<"), Second: textIf(on(3), "s\""), Token: "tok", After: "a", From: 7}
		n := api.Listing{Bucket: textIf(on(4), "b"), Q: q, V2: on(5), Count: 3, More: on(5), Next: textIf(on(6), "n"), Second: textIf(on(7), "z&")}
		for _, m := range someNumbers {
			n.Q.Max = m
			tells(t, of(n), outer, leaf(bucket, n.Bucket), leaf("Prefix", q.Prefix), leafIf("Delimiter", q.Delim), leaf("KeyMarker", q.Marker), leaf(second, q.Second), leaf(limit, strconv.Itoa(m)), leaf("IsTruncated", strconv.FormatBool(n.More)), leafIf("NextKeyMarker", n.Next), leafIf(next, n.Second))
		}
	})
}

func TestOfParts(t *testing.T) {
	var l []api.Part
	var want []string
	for i, s := range someTexts {
		for _, at := range someTimes {
			l = append(l, api.Part{Number: i, ETag: s, Size: someNumbers[i], Time: at, Ref: api.Ref{Start: 1, Size: 2}})
			want = append(want, el("Part", leaf("PartNumber", strconv.Itoa(i)), leaf("LastModified", isoOf(at)), leaf("ETag", "\""+s+"\""), leaf("Size", strconv.Itoa(someNumbers[i]))))
		}
	}
	ticks(4, func(on func(i int) bool) {
		n := api.Parts{Bucket: textIf(on(0), "b&"), Key: textIf(on(1), "k<"), Upload: textIf(on(2), "u>"), More: on(3), Items: l}
		for _, m := range someNumbers {
			n.From, n.Max, n.Next = m, m/2, m
			tells(t, OfParts(n), "ListPartsResult", leaf("Bucket", n.Bucket), leaf("Key", n.Key), leaf("UploadId", n.Upload), leaf("PartNumberMarker", strconv.Itoa(m)), leaf("MaxParts", strconv.Itoa(m/2)), leaf("IsTruncated", strconv.FormatBool(on(3))), leafOf("NextPartNumberMarker", m), strings.Join(want, ""))
		}
	})
	tells(t, OfParts(api.Parts{From: 1, Max: 2, Next: 3}), "ListPartsResult", "<Bucket></Bucket><Key></Key><UploadId></UploadId><PartNumberMarker>1</PartNumberMarker><MaxParts>2</MaxParts><IsTruncated>false</IsTruncated><NextPartNumberMarker>3</NextPartNumberMarker>")
}

func TestOfOneResult(t *testing.T) {
	for _, a := range someTexts {
		for _, b := range someTexts {
			for _, c := range someTexts {
				tells(t, OfInitiate(a, b, c), "InitiateMultipartUploadResult", leaf("Bucket", a), leaf("Key", b), leaf("UploadId", c))
				tells(t, OfComplete(a, b, c), "CompleteMultipartUploadResult", leaf("Bucket", a), leaf("Key", b), leaf("ETag", "\""+c+"\""))
			}
		}
		for _, at := range someTimes {
			tells(t, OfCopy(a, at), "CopyObjectResult", leaf("LastModified", isoOf(at)), leaf("ETag", "\""+a+"\""))
		}
	}
	tells(t, Location(), "LocationConstraint")
}

func TestOfDeleted(t *testing.T) {
	tells(t, OfDeleted(nil), "DeleteResult")
	var l []api.Deleted
	var want []string
	ticks(4, func(on func(i int) bool) {
		d := api.Deleted{Key: textIf(on(0), "k&"), Version: textIf(on(1), "v<"), Marker: on(2), MarkerVersion: textIf(on(3), "m>")}
		l, want = append(l, d), append(want, el("Deleted", leaf("Key", d.Key), leafIf("VersionId", d.Version), textIf(on(2), "<DeleteMarker>true</DeleteMarker>"), leafIf("DeleteMarkerVersionId", d.MarkerVersion)))
		for e, name := range map[api.Errno]string{api.ErrSlowDown: "SlowDown", api.ErrInvalidArgument: "InvalidArgument", api.ErrKeyTooLongError: "KeyTooLongError", api.ErrDead: "InternalError", 1: "InternalError", -1: "InternalError", 5000: "InternalError"} {
			d.Code = e
			l, want = append(l, d), append(want, el("Error", leaf("Key", d.Key), leafIf("VersionId", d.Version), leaf("Code", name)))
		}
	})
	tells(t, OfDeleted(l), "DeleteResult", want...)
	for i := range l {
		tells(t, OfDeleted(l[i:i+1]), "DeleteResult", want[i])
	}
}

// allTold are elements of each call, with that text wherever one goes in.
func allTold(s string) []xml.Node {
	v := api.Version{Seq: 1, ETag: s}
	q := api.Query{Prefix: s, Delim: s, Marker: s, Second: s, Token: s, After: s}
	n := api.Listing{Bucket: s, Q: q, Items: []api.Item{{Name: s, Version: v}, {Name: s, Version: api.Version{Null: true, Marker: true}}, {Name: s, Group: true}}, Next: s, Second: s}
	m := n
	m.V2 = true
	return []xml.Node{
		OfTags([]api.Tag{{Key: s, Value: s}}),
		OfCors([]api.Rule{{Origins: []string{s}, Methods: []string{s}, Allow: []string{s}, Expose: []string{s}}}),
		OfBuckets([]api.Bucket{{Name: s}}),
		OfListing(n), OfListing(m), OfVersions(n), OfUploads(n),
		OfParts(api.Parts{Bucket: s, Key: s, Upload: s, Items: []api.Part{{ETag: s}}}),
		OfInitiate(s, s, s), OfComplete(s, s, s), OfCopy(s, 0),
		OfDeleted([]api.Deleted{{Key: s, Version: s, Marker: true, MarkerVersion: s}, {Key: s, Version: s, Code: 1}}),
	}
}

// countTexts tells how many elements in n say s, alone or between marks.
func countTexts(n xml.Node, s string) int {
	c := 0
	if n.Text == s || n.Text == "\""+s+"\"" {
		c++
	}
	for _, k := range n.Kids {
		c += countTexts(k, s)
	}
	return c
}

func TestTextsGoInAsTheyAre(t *testing.T) {
	counts := []int{2, 4, 1, 9, 9, 11, 10, 4, 3, 3, 1, 5}
	for _, s := range []string{"text", " \r\n ", "\x00", "\xff", "a\x01b", "\uFFFE", "\xed\xa0\x80", "<&>", "%41", strings.Repeat("x", 70000)} {
		for i, n := range allTold(s) {
			if c := countTexts(n, s); c != counts[i] {
				t.Errorf("%s %.10q: %d texts", n.Name, s, c)
			}
			want := api.OK
			if _, e := xml.Print(xml.Of("a", s), false); e != api.OK {
				want = e
			}
			if _, e := xml.Print(n, true); e != want {
				t.Errorf("%s %.10q: %v", n.Name, s, e)
			}
		}
	}
}

// 15.3

func TestVersioningThereAndBack(t *testing.T) {
	for n := range 3 {
		for _, space := range []bool{false, true} {
			s, _ := xml.Print(OfVersioning(n), space)
			if m, e := Versioning(s); m != n || e != api.OK {
				t.Error(n, m, e)
			}
		}
	}
}

func TestTagsThereAndBack(t *testing.T) {
	var ten []api.Tag
	for i := range 10 {
		ten = append(ten, api.Tag{Key: strings.Repeat(string(rune('é'+i)), 128), Value: strings.Repeat("\r", 256)})
	}
	lists := [][]api.Tag{nil, {}, {{Key: "a"}}, {{Key: " ", Value: "\r\n"}}, {{Key: "\r"}, {Key: "\n"}, {Key: "\r\n"}}, {{Key: "b", Value: "1"}, {Key: "a", Value: "1"}}, ten}
	for _, k := range someTexts[1:] {
		for _, v := range someTexts {
			lists = append(lists, []api.Tag{{Key: k, Value: v}, {Key: "k" + v, Value: k}})
		}
	}
	for _, l := range lists {
		for _, space := range []bool{false, true} {
			s, _ := xml.Print(OfTags(l), space)
			if m, e := Tags(s); !slices.Equal(m, l) || e != api.OK {
				t.Error(l, m, e)
			}
		}
	}
}

func TestCorsThereAndBack(t *testing.T) {
	full := api.Rule{Origins: []string{"http://*.a", "", "*", "é\r\n"}, Methods: []string{"GET", "PUT", "POST", "DELETE", "HEAD", "GET"}, Allow: []string{"x-*", "*", "!#$%&'+-.^_`|~", "x-*"}, Expose: []string{"E", "e", "**"}, Age: 999999999999999999}
	few := api.Rule{Origins: []string{"b", "a"}, Methods: []string{"HEAD"}}
	hundred := slices.Repeat([]api.Rule{few}, 99)
	for _, l := range [][]api.Rule{{few}, {full}, {full, few}, {few, full, few}, append(hundred, full)} {
		for _, space := range []bool{false, true} {
			s, _ := xml.Print(OfCors(l), space)
			if m, e := Cors(s); !slices.EqualFunc(m, l, sameRule) || e != api.OK {
				t.Error(l, m, e)
			}
		}
	}
	for _, l := range [][]api.Rule{nil, {{}}, {{Origins: []string{"a"}}}, {{Methods: []string{"GET"}}}, append(hundred, full, few), {{Origins: []string{"a"}, Methods: []string{"GET"}, Age: -1}}} {
		s, _ := xml.Print(OfCors(l), true)
		if m, e := Cors(s); m != nil || e != api.ErrMalformedXML {
			t.Error(l, m, e)
		}
	}
}

// 15.4

// spoilKids fills the room behind the lists of n, and, if all, the lists too.
func spoilKids(n xml.Node, all bool) {
	for _, k := range n.Kids {
		spoilKids(k, all)
	}
	kids := n.Kids
	if all {
		kids = kids[:0]
	}
	spare(kids, xml.Of("spoilt", "x"))
}

func TestTellsAreNewMemory(t *testing.T) {
	tell := func() []xml.Node {
		return append(allTold("x"), OfVersioning(1), OfVersioning(0), Location())
	}
	var want []string
	for _, n := range tell() {
		want = append(want, printed(t, n))
	}
	one, two := tell(), tell()
	for i, n := range one {
		spoilKids(n, false)
		if s := printed(t, n); s != want[i] {
			t.Error("lists of one answer share memory", s)
		}
		spoilKids(n, true)
	}
	three := tell()
	for i := range want {
		if printed(t, two[i]) != want[i] || printed(t, three[i]) != want[i] {
			t.Error("answers share memory", want[i])
		}
	}
}

// roomy tells l with room behind it that must stay as it is.
func roomy[T any](l ...T) []T {
	return append(make([]T, 0, len(l)+4), l...)
}

// untouched tells whether that room is still zero.
func untouched[T any](l []T, zero func(v T) bool) bool {
	return !slices.ContainsFunc(l[len(l):cap(l)], func(v T) bool { return !zero(v) })
}

func TestTellsLeaveListsAlone(t *testing.T) {
	tags := roomy(api.Tag{Key: "a"}, api.Tag{Key: "b"})
	rules := roomy(api.Rule{Origins: roomy("o", "p"), Methods: roomy("GET"), Allow: roomy("a"), Expose: roomy("e")})
	buckets := roomy(api.Bucket{Name: "b"}, api.Bucket{Name: "a"})
	items := roomy(api.Item{Name: "g", Group: true}, api.Item{Name: "k"})
	parts := roomy(api.Part{Number: 2}, api.Part{Number: 1})
	gone := roomy(api.Deleted{Key: "b"}, api.Deleted{Key: "a", Code: 1})
	for range 2 {
		OfTags(tags)
		OfCors(rules)
		OfBuckets(buckets)
		OfListing(api.Listing{Items: items})
		OfVersions(api.Listing{Items: items})
		OfUploads(api.Listing{Items: items})
		OfParts(api.Parts{Items: parts})
		OfDeleted(gone)
	}
	r := rules[0]
	if !slices.Equal(tags, []api.Tag{{Key: "a"}, {Key: "b"}}) || !sameRule(r, api.Rule{Origins: []string{"o", "p"}, Methods: []string{"GET"}, Allow: []string{"a"}, Expose: []string{"e"}}) || buckets[0].Name != "b" || buckets[1].Name != "a" || items[0].Name != "g" || items[1].Name != "k" || parts[0].Number != 2 || parts[1].Number != 1 || gone[0].Key != "b" || gone[1].Key != "a" {
		t.Error("a list is changed")
	}
	empty := func(s string) bool { return s == "" }
	if !untouched(tags, func(v api.Tag) bool { return v == api.Tag{} }) || !untouched(rules, func(v api.Rule) bool { return sameRule(v, api.Rule{}) }) || !untouched(r.Origins, empty) || !untouched(r.Methods, empty) || !untouched(r.Allow, empty) || !untouched(r.Expose, empty) || !untouched(buckets, func(v api.Bucket) bool { return v.Name == "" }) || !untouched(items, func(v api.Item) bool { return v.Name == "" }) || !untouched(parts, func(v api.Part) bool { return v == api.Part{} }) || !untouched(gone, func(v api.Deleted) bool { return v == api.Deleted{} }) {
		t.Error("the room behind a list is changed")
	}
}

// What is told does not change with the list that it was made of.
func TestTellsKeepNothing(t *testing.T) {
	tags, origins := []api.Tag{{Key: "a", Value: "1"}}, []string{"o"}
	n, m := OfTags(tags), OfCors([]api.Rule{{Origins: origins}})
	tags[0], origins[0] = api.Tag{Key: "b"}, "p"
	tells(t, n, "Tagging", el("TagSet", tag("a", "1")))
	tells(t, m, "CORSConfiguration", "<CORSRule><AllowedOrigin>o</AllowedOrigin></CORSRule>")
}

func TestTellsEnd(t *testing.T) {
	const many = 100000
	ends(t, "a long list", func() {
		l := api.Listing{Items: make([]api.Item, many), V2: true, Next: strings.Repeat("x", many)}
		for _, n := range []xml.Node{OfListing(l), OfVersions(l), OfUploads(l), OfParts(api.Parts{Items: make([]api.Part, many)}), OfDeleted(make([]api.Deleted, many)), OfCors(make([]api.Rule, many))} {
			if len(n.Kids) < many {
				t.Error(n.Name, len(n.Kids))
			}
		}
		if n := OfTags(make([]api.Tag, many)); len(n.Kids[0].Kids) != many {
			t.Error(len(n.Kids))
		}
		if n := OfBuckets(make([]api.Bucket, many)); len(n.Kids[1].Kids) != many {
			t.Error(len(n.Kids))
		}
	})
}
