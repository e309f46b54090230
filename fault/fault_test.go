package fault

import (
	"math"
	"slices"
	"strconv"
	"strings"
	"testing"

	"stowage/api"
	"stowage/xml"
)

// table is that of 14.1, its rows put together: the names and statuses from 300 on.
const table = `AccessDenied 403, SignatureDoesNotMatch 403, InvalidAccessKeyId 403, RequestTimeTooSkewed 403, AuthorizationHeaderMalformed 400, XAmzContentSHA256Mismatch 400, AccessForbidden 403, IncompleteBody 400, BadRequest 400, MethodNotAllowed 405,
NoSuchBucket 404, NoSuchKey 404, NoSuchVersion 404, NoSuchUpload 404, NoSuchCORSConfiguration 404, NoSuchTagSet 404, BucketAlreadyOwnedByYou 409, BucketNotEmpty 409, InvalidBucketName 400, InvalidArgument 400,
InvalidRange 416, InvalidPart 400, InvalidPartOrder 400, EntityTooSmall 400, EntityTooLarge 400, KeyTooLongError 400, MalformedXML 400, PreconditionFailed 412, NotModified 304, BadDigest 400,
InvalidDigest 400, InvalidURI 400, InvalidRequest 400, InvalidTag 400, SlowDown 503, NotImplemented 501, InternalError 500, ExpectationFailed 417, RequestURITooLong 414, RequestHeaderSectionTooLarge 431,
HTTPVersionNotSupported 505, TooManyBuckets 400`

// row is an error as the table tells it.
type row struct {
	number api.Errno
	name   string
	status int
}

// rows tells the table, row by row.
func rows(t *testing.T) []row {
	var l []row
	for i, cell := range strings.Split(table, ",") {
		f := strings.Fields(cell)
		status, err := strconv.Atoi(f[1])
		if err != nil || len(f) != 2 {
			t.Fatal(cell)
		}
		l = append(l, row{api.Errno(300 + i), f[0], status})
	}
	if len(l) != 42 {
		t.Fatal(len(l))
	}
	return l
}

// lower are the errors of the layers below, and numbers that are no error's.
func lower() []api.Errno {
	l := []api.Errno{1, 2, 50, 60, 61, 62, 130, 299, 342, 30, 31, 32, 33, 34, 3000, 3100, 3360, 336 + 1<<32, 310 - 1<<32, 311 + 1<<16, 310 + 256, math.MaxInt, math.MinInt, math.MaxInt32, math.MinInt32}
	for e := api.Errno(-1000); e < 2000; e++ {
		if e != 0 && (e < 300 || e > 341) {
			l = append(l, e)
		}
	}
	return l
}

// 14.1, 14.2
func TestNamesAndStatuses(t *testing.T) {
	for _, r := range rows(t) {
		if n, s := Name(r.number), Status(r.number); n != r.name || s != r.status {
			t.Error(r, n, s)
		}
	}
	if n, s := Name(api.OK), Status(api.OK); n != "" || s != 200 {
		t.Error(n, s)
	}
	for _, e := range lower() {
		if n, s := Name(e), Status(e); n != "InternalError" || s != 500 {
			t.Error(e, n, s)
		}
	}
}

// Package api has each error as Err and the name: those whose number the other layers will ask for by name.
func TestNamesOfPackageAPI(t *testing.T) {
	for name, e := range map[string]api.Errno{
		"AccessDenied": api.ErrAccessDenied, "SignatureDoesNotMatch": api.ErrSignatureDoesNotMatch, "InvalidAccessKeyId": api.ErrInvalidAccessKeyId, "RequestTimeTooSkewed": api.ErrRequestTimeTooSkewed, "AuthorizationHeaderMalformed": api.ErrAuthorizationHeaderMalformed, "XAmzContentSHA256Mismatch": api.ErrXAmzContentSHA256Mismatch, "AccessForbidden": api.ErrAccessForbidden, "IncompleteBody": api.ErrIncompleteBody, "BadRequest": api.ErrBadRequest, "MethodNotAllowed": api.ErrMethodNotAllowed,
		"NoSuchBucket": api.ErrNoSuchBucket, "NoSuchKey": api.ErrNoSuchKey, "NoSuchVersion": api.ErrNoSuchVersion, "NoSuchUpload": api.ErrNoSuchUpload, "NoSuchCORSConfiguration": api.ErrNoSuchCORSConfiguration, "NoSuchTagSet": api.ErrNoSuchTagSet, "BucketAlreadyOwnedByYou": api.ErrBucketAlreadyOwnedByYou, "BucketNotEmpty": api.ErrBucketNotEmpty, "InvalidBucketName": api.ErrInvalidBucketName, "InvalidArgument": api.ErrInvalidArgument,
		"InvalidRange": api.ErrInvalidRange, "InvalidPart": api.ErrInvalidPart, "InvalidPartOrder": api.ErrInvalidPartOrder, "EntityTooSmall": api.ErrEntityTooSmall, "EntityTooLarge": api.ErrEntityTooLarge, "KeyTooLongError": api.ErrKeyTooLongError, "MalformedXML": api.ErrMalformedXML, "PreconditionFailed": api.ErrPreconditionFailed, "NotModified": api.ErrNotModified, "BadDigest": api.ErrBadDigest,
		"InvalidDigest": api.ErrInvalidDigest, "InvalidURI": api.ErrInvalidURI, "InvalidRequest": api.ErrInvalidRequest, "InvalidTag": api.ErrInvalidTag, "SlowDown": api.ErrSlowDown, "NotImplemented": api.ErrNotImplemented, "InternalError": api.ErrInternalError, "ExpectationFailed": api.ErrExpectationFailed, "RequestURITooLong": api.ErrRequestURITooLong, "RequestHeaderSectionTooLarge": api.ErrRequestHeaderSectionTooLarge,
		"HTTPVersionNotSupported": api.ErrHTTPVersionNotSupported, "TooManyBuckets": api.ErrTooManyBuckets,
	} {
		if n := Name(e); n != name {
			t.Error(e, n, name)
		}
		if f, ok := Of(name); f != e || !ok {
			t.Error(name, f, ok)
		}
	}
}

// 14.2: Of
func TestOf(t *testing.T) {
	known := map[string]api.Errno{}
	for _, r := range rows(t) {
		known[r.name] = r.number
	}
	ask := func(name string) {
		want, there := known[name]
		if e, ok := Of(name); e != want || ok != there {
			t.Errorf("%q: %v %v, not %v %v", name, e, ok, want, there)
		}
	}
	for name := range known {
		ask(name)
		for i := range len(name) + 1 {
			ask(name[:i])
			ask(name[i:])
			for _, more := range []string{"\x00", " ", "a", "E", "\xff", "é"} {
				ask(name[:i] + more + name[i:])
				ask(name[:i] + more + name[min(i+1, len(name)):])
			}
			if i < len(name) {
				ask(name[:i] + name[i+1:])
				ask(name[:i] + strings.ToUpper(name[i:i+1]) + name[i+1:])
				ask(name[:i] + strings.ToLower(name[i:i+1]) + name[i+1:])
			}
		}
		ask(strings.ToLower(name))
		ask(strings.ToUpper(name))
		ask(" " + name)
		ask(name + "\x00")
		ask("Err" + name)
		ask(name + " " + strconv.Itoa(Status(known[name])))
		ask(strconv.Itoa(int(known[name])))
		for other := range known {
			ask(name + other)
		}
	}
	for _, name := range []string{"", "OK", "200", "ErrArg", "Errno", "error 310", "\xff", "\x00", strings.Repeat("x", 1<<20)} {
		ask(name)
	}
}

// 14.2: All
func TestAll(t *testing.T) {
	var want []api.Errno
	for _, r := range rows(t) {
		want = append(want, r.number)
	}
	l := All()
	if !slices.Equal(l, want) {
		t.Error(l)
	}
	m := All()
	for _, all := range [][]api.Errno{l, m} {
		clear(all[:cap(all)])
		_ = append(all, 7)
		if k := All(); !slices.Equal(k, want) {
			t.Error(k)
		}
	}
	l, m = All(), All()
	clear(l[:cap(l)])
	if !slices.Equal(m, want) {
		t.Error(m)
	}
	if Name(300) != "AccessDenied" || Device(341) != 341 {
		t.Error(Name(300), Device(341))
	}
}

// 14.2: Device
func TestDevice(t *testing.T) {
	if e := Device(api.OK); e != api.OK {
		t.Error(e)
	}
	for _, r := range rows(t) {
		if e := Device(r.number); e != r.number {
			t.Error(r, e)
		}
	}
	for _, e := range lower() {
		want := api.Errno(336)
		if e == 60 || e == 61 {
			want = 334
		}
		if got := Device(e); got != want {
			t.Error(e, got)
		}
	}
	if Device(api.ErrFull) != api.ErrSlowDown || Device(api.ErrNone) != api.ErrSlowDown || Device(api.ErrDead) != api.ErrInternalError || Device(api.ErrBad) != api.ErrInternalError || Device(api.ErrXML) != api.ErrInternalError {
		t.Error("by name")
	}
	for e := api.Errno(-400); e < 400; e++ {
		if d := Device(e); Device(d) != d {
			t.Error(e, d)
		}
	}
}

// 14.3
func TestNode(t *testing.T) {
	texts := []string{"", "/a", "/a/b c", "7", "<&>", "é", "\x00", "\xff", "Code", strings.Repeat("x", 100000)}
	for _, e := range append(append(All(), 0), lower()...) {
		for i, resource := range texts {
			id := texts[(i+3)%len(texts)]
			n := Node(e, resource, id)
			if n.Name != "Error" || n.Text != "" || len(n.Kids) != 4 {
				t.Fatal(e, i, n.Name, n.Text, len(n.Kids))
			}
			for j, want := range [][2]string{{"Code", Name(e)}, {"Message", Name(e)}, {"Resource", resource}, {"RequestId", id}} {
				if k := n.Kids[j]; k.Name != want[0] || k.Text != want[1] || len(k.Kids) != 0 {
					t.Error(e, i, j, k.Name)
				}
			}
		}
	}
}

func TestNodeIsWritten(t *testing.T) {
	s, e := xml.Print(Node(api.ErrNoSuchKey, "/a/<b>", "7"), false)
	want := "<?xml version=\"1.0\" encoding=\"UTF-8\"?>\n<Error><Code>NoSuchKey</Code><Message>NoSuchKey</Message><Resource>/a/&lt;b&gt;</Resource><RequestId>7</RequestId></Error>"
	if s != want || e != api.OK {
		t.Error(s, e)
	}
}

func TestNodeIsNewMemory(t *testing.T) {
	n, m := Node(311, "/a", "7"), Node(311, "/a", "7")
	clear(n.Kids[:cap(n.Kids)])
	_ = append(n.Kids, xml.Of("x", "y"))
	for i, name := range []string{"Code", "Message", "Resource", "RequestId"} {
		if m.Kids[i].Name != name || Node(311, "/a", "7").Kids[i].Name != name {
			t.Error(i, m.Kids[i])
		}
	}
}

// 14.4
func TestThereAndBack(t *testing.T) {
	seen := map[string]api.Errno{}
	for _, e := range All() {
		name := Name(e)
		if before, twice := seen[name]; twice {
			t.Error(e, before, name)
		}
		seen[name] = e
		f, ok := Of(name)
		if f != e || !ok || Name(f) != name {
			t.Error(e, f, ok, name)
		}
	}
	if len(seen) != 42 {
		t.Error(len(seen))
	}
}

// 14.5: every call above ends; and from many places at once.
func TestCallsBesideEachOther(t *testing.T) {
	done := make(chan bool)
	for range 8 {
		go func() {
			ok := true
			for e := api.Errno(-10); e < 400; e++ {
				f, there := Of(Name(e))
				ok = ok && (e == 0 || there && f == Device(f)) && len(Node(e, "r", "i").Kids) == 4 && Status(e) >= 200
			}
			done <- ok
		}()
	}
	for range 8 {
		if !<-done {
			t.Error("another answer")
		}
	}
}

// The chapter's examples.
func TestExamples(t *testing.T) {
	if Name(310) != "NoSuchBucket" || Status(320) != 416 {
		t.Error(Name(310), Status(320))
	}
	if e, ok := Of("SlowDown"); e != 334 || !ok {
		t.Error(e, ok)
	}
	if Name(60) != "InternalError" || Device(60) != 334 {
		t.Error(Name(60), Device(60))
	}
}

// What is told of an error inside is an error as others are.
func TestErrorTellsItsName(t *testing.T) {
	if s := find(310).Error(); s != "NoSuchBucket" {
		t.Error(s)
	}
	if s := find(60).Error(); s != "error 60" {
		t.Error(s)
	}
}
