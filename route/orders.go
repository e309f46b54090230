package route

import "stowage/api"

// An order is a line of the table of kinds; each has a type of its own.
type order interface {
	// kind tells which kind of the line is asked; 0, if none of them is.
	kind(a asked) int
}

// line says where an order is asked, and its kind by each method; 0, if there is none.
type line struct {
	at                           place
	sub                          string
	get, head, put, post, remove int
}

type (
	buckets    struct{ line }
	making     struct{ line }
	dropping   struct{ line }
	having     struct{ line }
	where      struct{ line }
	versioning struct{ line }
	cors       struct{ line }
	list       struct{ line }
	versions   struct{ line }
	uploads    struct{ line }
	erasing    struct{ line }
	putting    struct{ line }
	copying    struct{ line }
	getting    struct{ line }
	deleting   struct{ line }
	tagging    struct{ line }
	beginning  struct{ line }
	part       struct{ line }
	completing struct{ line }
	aborting   struct{ line }
	parts      struct{ line }
	allowing   struct{}
)

// lines tells the table of kinds. No request is asked by two of its lines.
func lines() []order {
	return []order{
		buckets{line{at: nowhere, get: api.OBuckets}},
		making{line{at: atBucket, put: api.OMake}},
		dropping{line{at: atBucket, remove: api.ODrop}},
		having{line{at: atBucket, head: api.OHas}},
		where{line{at: atBucket, sub: "location", get: api.OWhere}},
		versioning{line{at: atBucket, sub: "versioning", get: api.OGetVersioning, put: api.OPutVersioning}},
		cors{line{at: atBucket, sub: "cors", get: api.OGetCors, put: api.OPutCors, remove: api.ODropCors}},
		list{line{at: atBucket, get: api.OList}},
		versions{line{at: atBucket, sub: "versions", get: api.OVersions}},
		uploads{line{at: atBucket, sub: "uploads", get: api.OUploads}},
		erasing{line{at: atBucket, sub: "delete", post: api.OErase}},
		putting{line{at: atKey, put: api.OPut}},
		copying{line{at: atKey, put: api.OCopy}},
		getting{line{at: atKey, get: api.OGet, head: api.OHead}},
		deleting{line{at: atKey, remove: api.ODelete}},
		tagging{line{at: atKey, sub: "tagging", get: api.OGetTags, put: api.OPutTags, remove: api.ODropTags}},
		beginning{line{at: atKey, sub: "uploads", post: api.OBegin}},
		part{line{at: atKey, sub: "uploadId", put: api.OPart}},
		completing{line{at: atKey, sub: "uploadId", post: api.OComplete}},
		aborting{line{at: atKey, sub: "uploadId", remove: api.OAbort}},
		parts{line{at: atKey, sub: "uploadId", get: api.OParts}},
		allowing{},
	}
}

// order tells the order that is asked, and its kind; 0, if it is none.
func (a asked) order() (order, int) {
	for _, o := range lines() {
		if kind := o.kind(a); kind != 0 {
			return o, kind
		}
	}
	return nil, 0
}

func (l line) kind(a asked) int {
	if a.at != l.at || a.sub != l.sub {
		return 0
	}
	switch a.method {
	case "GET":
		return l.get
	case "HEAD":
		return l.head
	case "PUT":
		return l.put
	case "POST":
		return l.post
	case "DELETE":
		return l.remove
	default:
		return 0
	}
}

func (p putting) kind(a asked) int {
	if a.copies {
		return 0
	}
	return p.line.kind(a)
}

func (c copying) kind(a asked) int {
	if !a.copies {
		return 0
	}
	return c.line.kind(a)
}

func (allowing) kind(a asked) int {
	if a.method != toAllow {
		return 0
	}
	return api.OAllow
}
