package route

import (
	"cmp"
	"slices"
	"strings"

	"stowage/api"
	"stowage/chars"
	"stowage/http"
	"stowage/tagset"
)

const (
	metaPrefix  = "x-amz-meta-"
	defaultType = "binary/octet-stream"
)

// attrsOf tells what the headers say of an object beside its data.
func attrsOf(headers []api.Header) (api.Attrs, api.Errno) {
	l, ok := metaOf(headers)
	if !ok {
		return api.Attrs{}, api.ErrInvalidArgument
	}
	tags, e := tagsOf(headers)
	if e != api.OK {
		return api.Attrs{}, e
	}
	kind, there := http.Get(headers, "content-type")
	if !there {
		kind = defaultType
	}
	return api.Attrs{Type: kind, Meta: l, Tags: tags}, api.OK
}

// metaOf tells the headers that an object keeps, by name; false, if they are too long together.
func metaOf(headers []api.Header) ([]api.Header, bool) {
	var l []api.Header
	size := 0
	for _, h := range headers {
		if strings.HasPrefix(h.Name, metaPrefix) {
			l = append(l, h)
			size += len(h.Name) + len(h.Value)
		}
	}
	if size > api.MaxMeta {
		return nil, false
	}
	slices.SortStableFunc(l, func(a, b api.Header) int { return cmp.Compare(a.Name, b.Name) })
	return l, true
}

// tagsOf tells the tags in the headers, which stand there as a query does. A wrong escape in any of them is told ahead of what else they may be.
func tagsOf(headers []api.Header) ([]api.Tag, api.Errno) {
	value, _ := http.Get(headers, "x-amz-tagging")
	var l []api.Tag
	for _, pair := range chars.Split(value, '&') {
		if pair == "" {
			continue
		}
		name, text, _ := strings.Cut(pair, "=")
		key, ok := spaced(name)
		text, also := spaced(text)
		if !ok || !also {
			return nil, api.ErrInvalidArgument
		}
		l = append(l, api.Tag{Key: key, Value: text})
	}
	if !tagset.MayBe(l) {
		return nil, api.ErrInvalidTag
	}
	return l, api.OK
}

// sourceOf tells what is copied.
func sourceOf(headers []api.Header) (api.Source, api.Errno) {
	value, _ := http.Get(headers, copySource)
	path, query, asks := strings.Cut(strings.TrimPrefix(value, "/"), "?")
	version, ok := sourceVersion(query)
	path, also := chars.Unescape(path)
	if asks && !ok || !also {
		return api.Source{}, api.ErrInvalidArgument
	}
	bucket, key, _ := strings.Cut(path, "/")
	if !chars.Bucket(bucket) || !chars.Key(key) {
		return api.Source{}, api.ErrInvalidArgument
	}
	return api.Source{Bucket: bucket, Key: key, Version: version}, api.OK
}

// sourceVersion tells the version that stands behind the question mark of a source. Its name may be escaped as well as its value.
func sourceVersion(query string) (string, bool) {
	pair, ok := chars.Unescape(query)
	version, named := strings.CutPrefix(pair, "versionId=")
	if !ok || !named || !namesVersion(version) {
		return "", false
	}
	return version, true
}

// replaces tells whether a copy has attributes of its own.
func replaces(headers []api.Header) (bool, api.Errno) {
	directive, there := http.Get(headers, "x-amz-metadata-directive")
	switch {
	case !there || directive == "COPY":
		return false, api.OK
	case directive == "REPLACE":
		return true, api.OK
	default:
		return false, api.ErrInvalidArgument
	}
}
