package body

import (
	"math"
	"strings"

	"stowage/api"
	"stowage/chars"
	"stowage/enc"
	"stowage/xml"
)

const (
	white = " \t\n\r"

	maxObjects = 1000
	maxRules   = 100
	noBound    = math.MaxInt
)

// reader reads an element into what it was made for; false, if the element is not as told.
type reader func(n xml.Node) bool

// kid says how often an element may come in another one, and what reads it.
type kid struct {
	least, most int
	read        reader
}

func one(r reader) kid                      { return kid{1, 1, r} }
func perhaps(r reader) kid                  { return kid{0, 1, r} }
func several(least, most int, r reader) kid { return kid{least, most, r} }

// read reads the document s, whose outermost element has that name and those kids.
func read(s, name string, kids map[string]kid) bool {
	n, e := xml.Parse(s)
	return e == api.OK && n.Name == name && holds(n, kids)
}

// holds tells whether n has no kids but those of the table, each as often as it may come; they are read in their order.
func holds(n xml.Node, kids map[string]kid) bool {
	if strings.Trim(n.Text, white) != "" {
		return false
	}
	count := map[string]int{}
	for _, inner := range n.Kids {
		k, told := kids[inner.Name]
		count[inner.Name]++
		if !told || count[inner.Name] > k.most || !k.read(inner) {
			return false
		}
	}
	for name, k := range kids {
		if count[name] < k.least {
			return false
		}
	}
	return true
}

// holding reads an element that has kids.
func holding(kids map[string]kid) reader {
	return func(n xml.Node) bool { return holds(n, kids) }
}

// each reads an element that has kids into a new item of l. Each item has a table of its own.
func each[T any](l *[]T, kids func(item *T) map[string]kid) reader {
	return func(n xml.Node) bool {
		var item T
		ok := holds(n, kids(&item))
		*l = append(*l, item)
		return ok
	}
}

// saying reads an element that has no kids: take is told its text, and tells whether it may be.
func saying(take func(text string) bool) reader {
	return func(n xml.Node) bool { return len(n.Kids) == 0 && take(n.Text) }
}

func text(to *string) reader {
	return saying(func(s string) bool {
		*to = s
		return true
	})
}

// texts reads an element into a new item of l.
func texts(l *[]string, fits func(s string) bool) reader {
	return saying(func(s string) bool {
		*l = append(*l, s)
		return fits(s)
	})
}

func number(to *int) reader {
	return saying(func(s string) bool {
		n, ok := enc.Int(s)
		*to = n
		return ok
	})
}

func truth(to *bool) reader {
	return saying(func(s string) bool {
		*to = s == "true"
		return *to || s == "false"
	})
}

func state(to *int) reader {
	return saying(func(s string) bool {
		switch s {
		case stateName(enabled):
			*to = enabled
		case stateName(suspended):
			*to = suspended
		}
		return *to != 0
	})
}

func etag(to *string) reader {
	return saying(func(s string) bool {
		*to = unquoted(s)
		return true
	})
}

// unquoted takes the marks off s, if there is one at each end. A mark alone stands at one end only.
func unquoted(s string) string {
	if len(s) < 2 || !strings.HasPrefix(s, mark) || !strings.HasSuffix(s, mark) {
		return s
	}
	return s[1 : len(s)-1]
}

func versioningKids(to *int) map[string]kid {
	return map[string]kid{"Status": perhaps(state(to))}
}

func deleteKids(quiet *bool, l *[]api.Named) map[string]kid {
	return map[string]kid{
		"Quiet":  perhaps(truth(quiet)),
		"Object": several(1, maxObjects, each(l, objectKids)),
	}
}

func objectKids(n *api.Named) map[string]kid {
	return map[string]kid{
		"Key":       one(text(&n.Key)),
		"VersionId": perhaps(text(&n.Version)),
	}
}

func completeKids(l *[]api.PartRef) map[string]kid {
	return map[string]kid{"Part": several(1, api.MaxPart, each(l, partKids))}
}

func partKids(p *api.PartRef) map[string]kid {
	return map[string]kid{
		"PartNumber": one(number(&p.Number)),
		"ETag":       one(etag(&p.ETag)),
	}
}

func taggingKids(l *[]api.Tag) map[string]kid {
	tags := map[string]kid{"Tag": several(0, noBound, each(l, tagKids))}
	return map[string]kid{"TagSet": one(holding(tags))}
}

func tagKids(t *api.Tag) map[string]kid {
	return map[string]kid{
		"Key":   one(text(&t.Key)),
		"Value": one(text(&t.Value)),
	}
}

func corsKids(l *[]api.Rule) map[string]kid {
	return map[string]kid{"CORSRule": several(1, maxRules, each(l, ruleKids))}
}

func ruleKids(r *api.Rule) map[string]kid {
	return map[string]kid{
		"AllowedOrigin": several(1, noBound, texts(&r.Origins, isPattern)),
		"AllowedMethod": several(1, noBound, texts(&r.Methods, isMethod)),
		"AllowedHeader": several(0, noBound, texts(&r.Allow, isHeaderPattern)),
		"ExposeHeader":  several(0, noBound, texts(&r.Expose, chars.Token)),
		"MaxAgeSeconds": perhaps(number(&r.Age)),
		"ID":            perhaps(saying(anything)),
	}
}

// anything takes a text that says nothing to the store.
func anything(string) bool {
	return true
}

func isPattern(s string) bool {
	return strings.Count(s, "*") <= 1
}

func isHeaderPattern(s string) bool {
	return isPattern(s) && chars.Token(s)
}

// isMethod tells whether s is a method that a rule may allow.
func isMethod(s string) bool {
	switch s {
	case "GET", "PUT", "POST", "DELETE", "HEAD":
		return true
	}
	return false
}
