package meta

import (
	"slices"

	"stowage/api"
	"stowage/enc"
)

const (
	yes = "1"
	no  = "0"
)

// PackBucket tells the record of b.
func PackBucket(b api.Bucket) string {
	return pack(
		[]string{b.Name, enc.Text(b.Created), enc.Text(b.Versioning)},
		listFields(b.Cors, ruleFields),
		listFields(b.Tags, tagFields),
	)
}

// UnpackBucket tells the bucket whose record s is.
func UnpackBucket(s string) (api.Bucket, bool) {
	return unpack(s, func(r reader) api.Bucket {
		return api.Bucket{
			Name:       r.text(),
			Created:    r.number(),
			Versioning: r.number(),
			Cors:       readList(r, readRule),
			Tags:       readList(r, readTag),
		}
	})
}

// PackVersion tells the record of v.
func PackVersion(v api.Version) string {
	return pack(
		[]string{v.Key, enc.Text(v.Seq), flagField(v.Null), flagField(v.Marker), v.ETag, enc.Text(v.Size), enc.Text(v.Time), v.Type},
		listFields(v.Meta, headerFields),
		listFields(v.Tags, tagFields),
		refFields(v.Ref),
	)
}

// UnpackVersion tells the version whose record s is.
func UnpackVersion(s string) (api.Version, bool) {
	return unpack(s, func(r reader) api.Version {
		return api.Version{
			Key:    r.text(),
			Seq:    r.number(),
			Null:   r.flag(),
			Marker: r.flag(),
			ETag:   r.text(),
			Size:   r.number(),
			Time:   r.number(),
			Type:   r.text(),
			Meta:   readList(r, readHeader),
			Tags:   readList(r, readTag),
			Ref:    readRef(r),
		}
	})
}

// PackUpload tells the record of u.
func PackUpload(u api.Upload) string {
	return pack(
		[]string{u.Key, enc.Text(u.Seq), enc.Text(u.Time), u.Attrs.Type},
		listFields(u.Attrs.Meta, headerFields),
		listFields(u.Attrs.Tags, tagFields),
	)
}

// UnpackUpload tells the upload whose record s is.
func UnpackUpload(s string) (api.Upload, bool) {
	return unpack(s, func(r reader) api.Upload {
		return api.Upload{
			Key:  r.text(),
			Seq:  r.number(),
			Time: r.number(),
			Attrs: api.Attrs{
				Type: r.text(),
				Meta: readList(r, readHeader),
				Tags: readList(r, readTag),
			},
		}
	})
}

// PackPart tells the record of p.
func PackPart(p api.Part) string {
	return pack(
		[]string{enc.Text(p.Number), p.ETag, enc.Text(p.Size), enc.Text(p.Time)},
		refFields(p.Ref),
	)
}

// UnpackPart tells the part whose record s is.
func UnpackPart(s string) (api.Part, bool) {
	return unpack(s, func(r reader) api.Part {
		return api.Part{
			Number: r.number(),
			ETag:   r.text(),
			Size:   r.number(),
			Time:   r.number(),
			Ref:    readRef(r),
		}
	})
}

func pack(fields ...[]string) string {
	return string(enc.Pack(slices.Concat(fields...)))
}

// listFields tells how many items l has, then the fields of each.
func listFields[T any](l []T, itemFields func(item T) []string) []string {
	fields := []string{enc.Text(len(l))}
	for _, item := range l {
		fields = append(fields, itemFields(item)...)
	}
	return fields
}

func textFields(s string) []string {
	return []string{s}
}

func headerFields(h api.Header) []string {
	return []string{h.Name, h.Value}
}

func tagFields(t api.Tag) []string {
	return []string{t.Key, t.Value}
}

func ruleFields(r api.Rule) []string {
	return slices.Concat(
		listFields(r.Origins, textFields),
		listFields(r.Methods, textFields),
		listFields(r.Allow, textFields),
		listFields(r.Expose, textFields),
		[]string{enc.Text(r.Age)},
	)
}

func refFields(r api.Ref) []string {
	return []string{enc.Text(r.Start), enc.Text(r.Size)}
}

func flagField(is bool) string {
	if is {
		return yes
	}
	return no
}

// reader goes over the fields of a record. The first that is wrong or missing spoils the rest: none is handed out behind it, so that a record can be read to its end and asked once whether it was right.
type reader struct {
	// take hands the next field to is, which tells whether it is right.
	take func(is func(field string) bool)
	// sound tells whether every field was right so far.
	sound func() bool
}

// unpack tells what read makes of the fields of s; false, if one of them is wrong, missing or left over.
func unpack[T any](s string, read func(r reader) T) (T, bool) {
	fields, sound := enc.Unpack([]byte(s))
	record := read(reader{
		take: func(is func(field string) bool) {
			sound = sound && len(fields) > 0 && is(fields[0])
			if sound {
				fields = fields[1:]
			}
		},
		sound: func() bool { return sound },
	})
	if !sound || len(fields) > 0 {
		var none T
		return none, false
	}
	return record, true
}

func (r reader) text() string {
	text := ""
	r.take(func(field string) bool {
		text = field
		return true
	})
	return text
}

func (r reader) number() int {
	n := 0
	r.take(func(field string) bool {
		ok := false
		n, ok = enc.Int(field)
		return ok
	})
	return n
}

func (r reader) flag() bool {
	is := false
	r.take(func(field string) bool {
		is = field == yes
		return field == yes || field == no
	})
	return is
}

// readList makes room as items come, and ends at the first wrong field: a count that is not true may be far greater than what follows.
func readList[T any](r reader, readItem func(r reader) T) []T {
	var l []T
	n := r.number()
	for len(l) < n && r.sound() {
		l = append(l, readItem(r))
	}
	return l
}

func readTexts(r reader) []string {
	return readList(r, reader.text)
}

func readHeader(r reader) api.Header {
	return api.Header{Name: r.text(), Value: r.text()}
}

func readTag(r reader) api.Tag {
	return api.Tag{Key: r.text(), Value: r.text()}
}

func readRule(r reader) api.Rule {
	return api.Rule{
		Origins: readTexts(r),
		Methods: readTexts(r),
		Allow:   readTexts(r),
		Expose:  readTexts(r),
		Age:     r.number(),
	}
}

func readRef(r reader) api.Ref {
	return api.Ref{Start: r.number(), Size: r.number()}
}
