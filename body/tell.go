package body

import (
	"stowage/api"
	"stowage/enc"
	"stowage/fault"
	"stowage/when"
	"stowage/xml"
)

const (
	owner        = "stowage"
	storageClass = "STANDARD"

	// mark stands at both ends of an ETag.
	mark = `"`
)

// element is an element that kids are put into, one behind the other.
type element struct {
	xml.Node
}

func newElement(name string) *element {
	return &element{xml.Of(name, "")}
}

func (e *element) add(n xml.Node)            { e.Kids = append(e.Kids, n) }
func (e *element) text(name, s string)       { e.add(xml.Of(name, s)) }
func (e *element) number(name string, n int) { e.text(name, enc.Text(n)) }
func (e *element) time(name string, t int)   { e.text(name, when.Iso(t)) }
func (e *element) etag(s string)             { e.text("ETag", mark+s+mark) }

func (e *element) truth(name string, b bool) {
	if b {
		e.text(name, "true")
		return
	}
	e.text(name, "false")
}

// textIf puts the kid in only if it says something.
func (e *element) textIf(name, s string) {
	if s != "" {
		e.text(name, s)
	}
}

// numberIf puts the kid in only if it does not say 0.
func (e *element) numberIf(name string, n int) {
	if n != 0 {
		e.number(name, n)
	}
}

// texts puts in a kid of that name for each text.
func (e *element) texts(name string, l []string) {
	for _, s := range l {
		e.text(name, s)
	}
}

// stateName is empty for a state that has none.
func stateName(n int) string {
	switch n {
	case enabled:
		return "Enabled"
	case suspended:
		return "Suspended"
	}
	return ""
}

// OfVersioning tells a bucket's state.
func OfVersioning(n int) xml.Node {
	e := newElement("VersioningConfiguration")
	e.textIf("Status", stateName(n))
	return e.Node
}

// OfTags tells tags as Tags reads them.
func OfTags(l []api.Tag) xml.Node {
	set := newElement("TagSet")
	for _, t := range l {
		tag := newElement("Tag")
		tag.text("Key", t.Key)
		tag.text("Value", t.Value)
		set.add(tag.Node)
	}
	e := newElement("Tagging")
	e.add(set.Node)
	return e.Node
}

// OfCors tells rules as Cors reads them.
func OfCors(l []api.Rule) xml.Node {
	e := newElement("CORSConfiguration")
	for _, r := range l {
		rule := newElement("CORSRule")
		rule.texts("AllowedOrigin", r.Origins)
		rule.texts("AllowedMethod", r.Methods)
		rule.texts("AllowedHeader", r.Allow)
		rule.texts("ExposeHeader", r.Expose)
		rule.numberIf("MaxAgeSeconds", r.Age)
		e.add(rule.Node)
	}
	return e.Node
}

// OfBuckets tells all buckets.
func OfBuckets(l []api.Bucket) xml.Node {
	whose := newElement("Owner")
	whose.text("ID", owner)
	buckets := newElement("Buckets")
	for _, b := range l {
		bucket := newElement("Bucket")
		bucket.text("Name", b.Name)
		bucket.time("CreationDate", b.Created)
		buckets.add(bucket.Node)
	}
	e := newElement("ListAllMyBucketsResult")
	e.add(whose.Node)
	e.add(buckets.Node)
	return e.Node
}

// OfParts tells a page of an upload's parts.
func OfParts(l api.Parts) xml.Node {
	e := newElement("ListPartsResult")
	e.text("Bucket", l.Bucket)
	e.text("Key", l.Key)
	e.text("UploadId", l.Upload)
	e.number("PartNumberMarker", l.From)
	e.number("MaxParts", l.Max)
	e.truth("IsTruncated", l.More)
	e.numberIf("NextPartNumberMarker", l.Next)
	for _, p := range l.Items {
		part := newElement("Part")
		part.number("PartNumber", p.Number)
		part.time("LastModified", p.Time)
		part.etag(p.ETag)
		part.number("Size", p.Size)
		e.add(part.Node)
	}
	return e.Node
}

// OfInitiate tells of an upload that began.
func OfInitiate(bucket, key, id string) xml.Node {
	e := newElement("InitiateMultipartUploadResult")
	e.text("Bucket", bucket)
	e.text("Key", key)
	e.text("UploadId", id)
	return e.Node
}

// OfComplete tells of an object that was made of parts.
func OfComplete(bucket, key, etag string) xml.Node {
	e := newElement("CompleteMultipartUploadResult")
	e.text("Bucket", bucket)
	e.text("Key", key)
	e.etag(etag)
	return e.Node
}

// OfCopy tells of an object that was copied.
func OfCopy(etag string, time int) xml.Node {
	e := newElement("CopyObjectResult")
	e.time("LastModified", time)
	e.etag(etag)
	return e.Node
}

// OfDeleted tells what became of each version that Delete told.
func OfDeleted(l []api.Deleted) xml.Node {
	e := newElement("DeleteResult")
	for _, d := range l {
		e.add(deleted(d))
	}
	return e.Node
}

func deleted(d api.Deleted) xml.Node {
	if d.Code != api.OK {
		e := newElement("Error")
		e.text("Key", d.Key)
		e.textIf("VersionId", d.Version)
		e.text("Code", fault.Name(d.Code))
		return e.Node
	}
	e := newElement("Deleted")
	e.text("Key", d.Key)
	e.textIf("VersionId", d.Version)
	if d.Marker {
		e.truth("DeleteMarker", true)
	}
	e.textIf("DeleteMarkerVersionId", d.MarkerVersion)
	return e.Node
}

// Location tells where a bucket lies: there is one place alone, which has no name.
func Location() xml.Node {
	return xml.Of("LocationConstraint", "")
}
