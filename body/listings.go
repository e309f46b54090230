package body

import (
	"stowage/api"
	"stowage/enc"
	"stowage/meta"
	"stowage/xml"
)

// OfListing tells a page of a bucket's objects.
func OfListing(l api.Listing) xml.Node {
	e := newElement("ListBucketResult")
	e.text("Name", l.Bucket)
	e.text("Prefix", l.Q.Prefix)
	e.textIf("Delimiter", l.Q.Delim)
	if l.V2 {
		e.textIf("StartAfter", l.Q.After)
		e.textIf("ContinuationToken", l.Q.Token)
		e.number("KeyCount", l.Count)
	} else {
		e.text("Marker", l.Q.Marker)
	}
	e.number("MaxKeys", l.Q.Max)
	e.truth("IsTruncated", l.More)
	if l.V2 {
		e.textIf("NextContinuationToken", enc.Base64([]byte(l.Next)))
	} else {
		e.textIf("NextMarker", l.Next)
	}
	e.items(l.Items, contents)
	return e.Node
}

// OfVersions tells a page of a bucket's versions.
func OfVersions(l api.Listing) xml.Node {
	e := newElement("ListVersionsResult")
	e.text("Name", l.Bucket)
	e.text("Prefix", l.Q.Prefix)
	e.textIf("Delimiter", l.Q.Delim)
	e.text("KeyMarker", l.Q.Marker)
	e.text("VersionIdMarker", l.Q.Second)
	e.number("MaxKeys", l.Q.Max)
	e.truth("IsTruncated", l.More)
	e.textIf("NextKeyMarker", l.Next)
	e.textIf("NextVersionIdMarker", l.Second)
	e.items(l.Items, version)
	return e.Node
}

// OfUploads tells a page of a bucket's uploads.
func OfUploads(l api.Listing) xml.Node {
	e := newElement("ListMultipartUploadsResult")
	e.text("Bucket", l.Bucket)
	e.text("Prefix", l.Q.Prefix)
	e.textIf("Delimiter", l.Q.Delim)
	e.text("KeyMarker", l.Q.Marker)
	e.text("UploadIdMarker", l.Q.Second)
	e.number("MaxUploads", l.Q.Max)
	e.truth("IsTruncated", l.More)
	e.textIf("NextKeyMarker", l.Next)
	e.textIf("NextUploadIdMarker", l.Second)
	e.items(l.Items, upload)
	return e.Node
}

// items puts in what tell makes of each item that is no group, and behind them the groups.
func (e *element) items(l []api.Item, tell func(i api.Item) xml.Node) {
	var groups []string
	for _, i := range l {
		if i.Group {
			groups = append(groups, i.Name)
			continue
		}
		e.add(tell(i))
	}
	for _, name := range groups {
		group := newElement("CommonPrefixes")
		group.text("Prefix", name)
		e.add(group.Node)
	}
}

func contents(i api.Item) xml.Node {
	e := newElement("Contents")
	e.text("Key", i.Name)
	e.time("LastModified", i.Version.Time)
	e.data(i.Version)
	return e.Node
}

func version(i api.Item) xml.Node {
	name := "Version"
	if i.Version.Marker {
		name = "DeleteMarker"
	}
	e := newElement(name)
	e.text("Key", i.Name)
	e.text("VersionId", versionName(i.Version))
	e.truth("IsLatest", i.Latest)
	e.time("LastModified", i.Version.Time)
	if !i.Version.Marker {
		e.data(i.Version)
	}
	return e.Node
}

// data puts in what is told of a version's data.
func (e *element) data(v api.Version) {
	e.etag(v.ETag)
	e.number("Size", v.Size)
	e.text("StorageClass", storageClass)
}

func versionName(v api.Version) string {
	if v.Null {
		return "null"
	}
	return meta.ID(v.Seq)
}

func upload(i api.Item) xml.Node {
	e := newElement("Upload")
	e.text("Key", i.Name)
	e.text("UploadId", meta.ID(i.Upload.Seq))
	e.time("Initiated", i.Upload.Time)
	return e.Node
}
