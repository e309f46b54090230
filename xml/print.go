package xml

import (
	"strings"

	"stowage/api"
	"stowage/chars"
)

const (
	head      = `<?xml version="1.0" encoding="UTF-8"?>` + "\n"
	namespace = ` xmlns="http://s3.amazonaws.com/doc/2006-03-01/"`
)

// Print tells the document that holds n, in the namespace of S3's documents, if space.
func Print(n Node, space bool) (string, api.Errno) {
	if !printable(n) {
		return "", api.ErrXML
	}
	attributes := ""
	if space {
		attributes = namespace
	}
	var b strings.Builder
	b.WriteString(head)
	if !printElement(&b, n, attributes) {
		return "", api.ErrLong
	}
	return b.String(), api.OK
}

// printable tells whether n can be written, however long it becomes.
func printable(n Node) bool {
	level, ok := [][]Node{{n}}, true
	for depth := 1; ok && len(level) > 0; depth++ {
		if depth > api.MaxDepth {
			return false
		}
		level, ok = below(level)
	}
	return ok
}

// below tells the lists of the elements in those of level; false, if one of these is not sound. It tells a list once: one that is the Kids of many nodes could stand in a document more often than can be counted.
func below(level [][]Node) ([][]Node, bool) {
	var lists [][]Node
	met := map[place]struct{}{}
	for _, l := range level {
		for _, n := range l {
			if !sound(n) {
				return nil, false
			}
			if len(n.Kids) == 0 {
				continue
			}
			at := placeOf(n.Kids)
			if _, ok := met[at]; !ok {
				met[at] = struct{}{}
				lists = append(lists, n.Kids)
			}
		}
	}
	return lists, true
}

// sound asks nothing of the elements in n.
func sound(n Node) bool {
	return Name(n.Name) && chars.Legal(n.Text) && (n.Text == "" || len(n.Kids) == 0)
}

// printElement writes n to b; false, as soon as b is too long.
func printElement(b *strings.Builder, n Node, attributes string) bool {
	for _, s := range []string{"<", n.Name, attributes, ">", Escape(n.Text)} {
		b.WriteString(s)
	}
	for _, kid := range n.Kids {
		if !printElement(b, kid, "") {
			return false
		}
	}
	for _, s := range []string{"</", n.Name, ">"} {
		b.WriteString(s)
	}
	return b.Len() <= api.MaxXML
}
