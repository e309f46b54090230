package xml

import (
	"strings"

	"stowage/api"
	"stowage/chars"
)

const (
	white       = " \t\n\r"
	declaration = "<?xml"
)

// Parse tells the element that the document s holds.
func Parse(s string) (Node, api.Errno) {
	var n Node
	var ok bool
	r := &reader{s}
	if len(s) > api.MaxXML {
		return Node{}, api.ErrLong
	}
	if !chars.Legal(s) || !r.declaration() {
		goto wrong
	}
	r.white()
	n, ok = r.element(1)
	if !ok {
		goto wrong
	}
	r.white()
	if r.rest != "" {
		goto wrong
	}
	return n, api.OK
wrong:
	return Node{}, api.ErrXML
}

// reader goes over a document. Each of its methods reads what it is named for from the beginning of rest, and takes that away.
type reader struct {
	rest string
}

func (r *reader) take(word string) bool {
	rest, ok := strings.CutPrefix(r.rest, word)
	r.rest = rest
	return ok
}

// white takes all white, and tells whether there was any.
func (r *reader) white() bool {
	behind := strings.TrimLeft(r.rest, white)
	found := len(behind) < len(r.rest)
	r.rest = behind
	return found
}

// name is empty where none stands.
func (r *reader) name() string {
	size := nameSize(r.rest)
	name := r.rest[:size]
	r.rest = r.rest[size:]
	return name
}

// declaration need not be there.
func (r *reader) declaration() bool {
	var ok bool
	if !r.take(declaration) {
		return true
	}
	if !startsWithAny(r.rest, white+"?") {
		goto wrong
	}
	_, r.rest, ok = strings.Cut(r.rest, "?>")
	if !ok {
		goto wrong
	}
	return true
wrong:
	return false
}

// startsWithAny tells whether the first byte of s is one of those.
func startsWithAny(s, those string) bool {
	return s != "" && strings.IndexByte(those, s[0]) >= 0
}

// element lies in depth elements, itself counted.
func (r *reader) element(depth int) (Node, bool) {
	var n Node
	if depth > api.MaxDepth || !r.take("<") {
		goto wrong
	}
	n.Name = r.name()
	if n.Name == "" || !r.attributes() {
		goto wrong
	}
	if r.take("/>") {
		return n, true
	}
	if !r.take(">") || !r.content(&n, depth) || !r.take("</") || !r.take(n.Name) {
		goto wrong
	}
	r.white()
	if !r.take(">") {
		goto wrong
	}
	return n, true
wrong:
	return Node{}, false
}

// attributes takes the white behind them, too: only at a name behind it shows whether it was that of an attribute.
func (r *reader) attributes() bool {
	for r.white() && r.name() != "" {
		if r.take(":") && r.name() == "" {
			goto wrong
		}
		r.white()
		if !r.take("=") {
			goto wrong
		}
		r.white()
		if !r.quoted() {
			goto wrong
		}
	}
	return true
wrong:
	return false
}

// quoted is the text of an attribute with its marks.
func (r *reader) quoted() bool {
	var text string
	var ok bool
	if !startsWithAny(r.rest, `"'`) {
		goto wrong
	}
	text, r.rest, ok = strings.Cut(r.rest[1:], r.rest[:1])
	if !ok || strings.ContainsAny(text, "<&") {
		goto wrong
	}
	return true
wrong:
	return false
}

// content is what n holds.
func (r *reader) content(n *Node, depth int) bool {
	text, behind, ok := strings.Cut(r.rest, "<")
	if !ok {
		goto wrong
	}
	if strings.HasPrefix(behind, "/") {
		r.rest = r.rest[len(text):]
		n.Text, ok = Unescape(text)
		return ok
	}
	for r.white(); !strings.HasPrefix(r.rest, "</"); r.white() {
		kid, ok := r.element(depth + 1)
		if !ok {
			goto wrong
		}
		n.Kids = append(n.Kids, kid)
	}
	return true
wrong:
	return false
}
