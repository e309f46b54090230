package cond

import (
	"slices"
	"strings"

	"stowage/api"
	"stowage/chars"
	"stowage/http"
)

const quote = `"`

// tags are the etags that a condition names, if it does: some, or all there are.
type tags struct {
	some       []string
	all, there bool
}

// Tags tells the etags that a value names, or that it names all; whether it names any comes last.
func Tags(value string) ([]string, bool, bool) {
	if chars.Trim(value) == "*" {
		return nil, true, true
	}
	l := chars.Split(value, ',')
	for i, part := range l {
		l[i] = plain(chars.Trim(part))
		if l[i] == "" {
			return nil, false, false
		}
	}
	return l, false, true
}

// plain tells an etag without what may stand about it. A weak one is held against others as a strong one is.
func plain(s string) string {
	s = strings.TrimPrefix(s, "W/")
	if inner, ok := strings.CutPrefix(s, quote); ok {
		if inner, ok = strings.CutSuffix(inner, quote); ok {
			return inner
		}
	}
	return s
}

func tagsOf(l []api.Header, name string) tags {
	value, _ := http.Get(l, name)
	some, all, ok := Tags(value)
	return tags{some: some, all: all, there: ok}
}

func (t tags) has(etag string) bool {
	return t.all || slices.Contains(t.some, etag)
}
