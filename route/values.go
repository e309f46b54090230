package route

import (
	"strings"

	"stowage/api"
	"stowage/chars"
	"stowage/enc"
	"stowage/http"
	"stowage/meta"
)

// maxItems is how many items a page has at most, and where nothing is said of it.
const maxItems = 1000

// nullVersion is the name of the version that has none of its own.
const nullVersion = "null"

// values reads the values of a query. They are wrong as soon as one of them is.
type values struct {
	pairs []api.Header
	wrong bool
}

// paged is an order that asks for a page.
type paged interface {
	order

	// read tells from where on the page is, and how long.
	read(v *values) api.Query
}

func (v *values) fault() api.Errno {
	if v.wrong {
		return api.ErrInvalidArgument
	}
	return api.OK
}

// must says that the values are wrong, if something does not hold.
func (v *values) must(holds bool) {
	if !holds {
		v.wrong = true
	}
}

// find tells the first value of that name, and whether it is there.
func (v *values) find(name string) (s string, there bool) {
	value, there := http.Get(v.pairs, name)
	s, ok := spaced(value)
	v.must(ok)
	return s, there
}

// text tells the first value of that name; one that is not there is empty.
func (v *values) text(name string) string {
	s, _ := v.find(name)
	return s
}

// number tells the first value of that name, or what stands for one that is not there.
func (v *values) number(name string, missing int) int {
	s, there := v.find(name)
	if !there {
		return missing
	}
	n, ok := enc.Int(s)
	v.must(ok)
	return n
}

func (v *values) version() string {
	s, there := v.find("versionId")
	v.must(!there || namesVersion(s))
	return s
}

func (v *values) upload() string {
	s, there := v.find("uploadId")
	v.must(!there || s != "")
	return s
}

func (v *values) partNumber() int {
	n := v.number("partNumber", 0)
	v.must(n >= 1 && n <= api.MaxPart)
	return n
}

func (v *values) isV2() bool {
	return v.text("list-type") == "2"
}

func (v *values) page(p paged) api.Query {
	q := p.read(v)
	q.Prefix = v.text("prefix")
	q.Delim = v.text("delimiter")
	for _, s := range []string{q.Prefix, q.Delim, q.Marker, q.Second} {
		v.must(chars.Legal(s))
	}
	v.must(q.Second == "" || q.Marker != "")
	return q
}

// most tells how many items the page may have.
func (v *values) most(name string) int {
	return min(v.number(name, maxItems), maxItems)
}

func (list) read(v *values) api.Query {
	q := api.Query{Max: v.most("max-keys")}
	if !v.isV2() {
		q.Marker = v.text("marker")
		return q
	}
	token, there := v.find("continuation-token")
	q.Token = token
	q.After = v.text("start-after")
	q.Marker = q.After
	if there {
		b, ok := enc.Unbase64(token)
		v.must(ok)
		q.Marker = string(b)
	}
	return q
}

func (versions) read(v *values) api.Query {
	return api.Query{Max: v.most("max-keys"), Marker: v.text("key-marker"), Second: v.text("version-id-marker")}
}

func (uploads) read(v *values) api.Query {
	return api.Query{Max: v.most("max-uploads"), Marker: v.text("key-marker"), Second: v.text("upload-id-marker")}
}

func (parts) read(v *values) api.Query {
	return api.Query{Max: v.most("max-parts"), From: v.number("part-number-marker", 0)}
}

// spaced tells what an escaped text stands for, in which a plus sign is a blank.
func spaced(s string) (string, bool) {
	return chars.Unescape(strings.ReplaceAll(s, "+", " "))
}

// namesVersion tells whether s is a name that a version may have.
func namesVersion(s string) bool {
	_, ok := meta.Seq(s)
	return ok || s == nullVersion
}
