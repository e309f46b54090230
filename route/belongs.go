package route

import (
	"stowage/api"
	"stowage/body"
	"stowage/xml"
)

// readers tells what reads into op all that may belong to an order, in the order in which its faults are told. A reader reads nothing of an order to which what it reads does not belong.
func readers(a asked, op *api.Op) []func(o order) api.Errno {
	v := &values{pairs: a.query}
	return []func(o order) api.Errno{
		func(o order) api.Errno {
			if isOfVersion(o) {
				op.Version = v.version()
			}
			return v.fault()
		},
		func(o order) api.Errno {
			if isOfUpload(o) {
				op.Upload = v.upload()
			}
			return v.fault()
		},
		func(o order) api.Errno {
			if _, ok := o.(part); ok {
				op.Number = v.partNumber()
			}
			return v.fault()
		},
		func(o order) api.Errno {
			if _, ok := o.(list); ok {
				op.V2 = v.isV2()
			}
			if p, ok := o.(paged); ok {
				op.Q = v.page(p)
			}
			return v.fault()
		},
		func(o order) (e api.Errno) {
			if hasAttrs(o, a) {
				op.Attrs, e = attrsOf(a.headers)
			}
			return e
		},
		func(o order) (e api.Errno) {
			if _, ok := o.(copying); ok {
				op.Source, e = sourceOf(a.headers)
			}
			return e
		},
		func(o order) (e api.Errno) {
			if _, ok := o.(copying); ok {
				op.Replace, e = replaces(a.headers)
			}
			return e
		},
		func(order) api.Errno {
			if read, ok := documents(op)[op.Kind]; ok {
				return read(string(op.Body))
			}
			return api.OK
		},
	}
}

// documents tells what reads into op the documents of those kinds whose data is one.
func documents(op *api.Op) map[int]func(s string) api.Errno {
	return map[int]func(s string) api.Errno{
		api.OMake: newBucket,
		api.OPutVersioning: func(s string) (e api.Errno) {
			op.State, e = body.Versioning(s)
			return e
		},
		api.OPutCors: func(s string) (e api.Errno) {
			op.Rules, e = body.Cors(s)
			return e
		},
		api.OErase: func(s string) (e api.Errno) {
			op.Quiet, op.Names, e = body.Delete(s)
			return e
		},
		api.OPutTags: func(s string) (e api.Errno) {
			op.Tags, e = body.Tags(s)
			return e
		},
		api.OComplete: func(s string) (e api.Errno) {
			op.Parts, e = body.Complete(s)
			return e
		},
	}
}

// newBucket tells whether s may come with the order for a new bucket. What stands in the document says nothing: there is one place alone where buckets are.
func newBucket(s string) api.Errno {
	if s == "" {
		return api.OK
	}
	n, e := xml.Parse(s)
	if e != api.OK || n.Name != "CreateBucketConfiguration" {
		return api.ErrMalformedXML
	}
	return api.OK
}

func isOfVersion(o order) bool {
	_, gets := o.(getting)
	_, deletes := o.(deleting)
	_, tags := o.(tagging)
	return gets || deletes || tags
}

func isOfUpload(o order) bool {
	_, puts := o.(part)
	_, completes := o.(completing)
	_, aborts := o.(aborting)
	_, lists := o.(parts)
	return puts || completes || aborts || lists
}

// hasAttrs tells whether attributes are read: a copy has those of its source, unless it says that they are replaced.
func hasAttrs(o order, a asked) bool {
	_, puts := o.(putting)
	_, begins := o.(beginning)
	if _, copies := o.(copying); copies {
		replace, _ := replaces(a.headers)
		return replace
	}
	return puts || begins
}
