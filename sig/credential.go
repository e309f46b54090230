package sig

import (
	"strings"

	"stowage/api"
)

// credential tells which key signed, and for what: a name, a slash, a scope.
type credential string

// credentialOf is what a key of that name tells of what it signs on that day.
func credentialOf(name, day string) credential {
	return credential(name + "/" + scopeOf(day))
}

// scopeOf is what a key is good for on that day.
func scopeOf(day string) string {
	return strings.Join([]string{day, region, service, ending}, "/")
}

// name is what stands ahead of the first slash, for no name has one.
func (c credential) name() string {
	name, _, _ := strings.Cut(string(c), "/")
	return name
}

// scope is all that stands behind it.
func (c credential) scope() string {
	_, scope, _ := strings.Cut(string(c), "/")
	return scope
}

// isOf tells whether it is a credential of that day.
func (c credential) isOf(day string) bool {
	return isName(c.name()) && c.scope() == scopeOf(day)
}

// names tells whether k is the key that it names.
func (c credential) names(k api.Key) bool {
	return k.ID == c.name()
}

func isName(s string) bool {
	return s != "" && !strings.Contains(s, "/")
}
