// Package tagset tells which tags a version may have together, for the layers that read them out of documents and out of headers.
package tagset

import (
	"slices"

	"stowage/api"
	"stowage/chars"
)

const (
	maxKeyCharacters   = 128
	maxValueCharacters = 256
)

// MayBe tells whether a version may have these tags together. Of their characters it asks nothing but how many there are: a header may name some that no document holds.
func MayBe(l []api.Tag) bool {
	if len(l) > api.MaxTags {
		return false
	}
	for i, t := range l {
		twin := func(other api.Tag) bool { return other.Key == t.Key }
		if !mayBeTag(t) || slices.ContainsFunc(l[:i], twin) {
			return false
		}
	}
	return true
}

func mayBeTag(t api.Tag) bool {
	return t.Key != "" && hasAtMost(t.Key, maxKeyCharacters) && hasAtMost(t.Value, maxValueCharacters)
}

// hasAtMost tells whether s is no more than most characters. Bytes that are no characters have no number of them.
func hasAtMost(s string, most int) bool {
	n, ok := chars.Count(s)
	return ok && n <= most
}
