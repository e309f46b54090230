package route

import (
	"stowage/api"
	"stowage/http"
)

// A place says which of the two names a request has.
type place int

const (
	nowhere place = iota
	atBucket
	atKey

	// astray is a key without a bucket, of which nothing can be asked.
	astray
)

const (
	toAllow    = "OPTIONS"
	copySource = "x-amz-copy-source"
)

// asked is a request, parted into what tells its order and what belongs to it.
type asked struct {
	method         string
	at             place
	sub            string
	copies         bool
	bucket, key    string
	query, headers []api.Header
}

// askedBy parts a request, or tells why it is no order, whatever its method may be.
func askedBy(r api.Request) (asked, api.Errno) {
	bucket, key, e := Place(r)
	if e != api.OK {
		return asked{}, e
	}
	a := asked{method: r.Method, at: placeOf(bucket, key), bucket: bucket, key: key, headers: r.Headers}
	_, a.query = http.Query(r.Target)
	_, a.copies = http.Get(r.Headers, copySource)
	if a.method == toAllow {
		return a, api.OK
	}
	a.sub, e = subOrder(a.query)
	if e != api.OK {
		return asked{}, e
	}
	return a, api.OK
}

func placeOf(bucket, key string) place {
	switch {
	case bucket != "" && key != "":
		return atKey
	case bucket != "":
		return atBucket
	case key != "":
		return astray
	default:
		return nowhere
	}
}

// subOrder tells the name in a query that says what is asked beside the method; of none the empty text. That there are several is told only if none of the names is one that is not implemented.
func subOrder(query []api.Header) (string, api.Errno) {
	sub, count := "", 0
	for _, pair := range query {
		if isLeftOut(pair.Name) {
			return "", api.ErrNotImplemented
		}
		if isSubOrder(pair.Name) {
			sub = pair.Name
			count++
		}
	}
	if count > 1 {
		return "", api.ErrInvalidArgument
	}
	return sub, api.OK
}

func isSubOrder(name string) bool {
	switch name {
	case "location", "versioning", "cors", "versions", "uploads", "delete", "tagging", "uploadId":
		return true
	default:
		return false
	}
}

// isLeftOut tells whether a name asks for what S3 has, but this store has not.
func isLeftOut(name string) bool {
	switch name {
	case "acl", "policy", "lifecycle", "website", "logging", "notification", "encryption", "replication", "torrent", "restore", "select":
		return true
	default:
		return false
	}
}
