package cond

import (
	"math"
	"strings"

	"stowage/api"
	"stowage/enc"
)

// Range tells which bytes, of that many, a value asks for: from where on, how many, and whether it asks for a part of them. A value that asks for nothing that could be understood asks for all.
func Range(value string, size int) (from, n int, part bool, e api.Errno) {
	size = max(size, 0)
	first, last, ok := ends(value, size)
	switch {
	case !ok || last < first:
		return 0, size, false, api.OK
	case first >= size:
		return 0, 0, false, api.ErrInvalidRange
	default:
		return first, min(last, size-1) - first + 1, true, api.OK
	}
}

// ends tells the first and the last byte that a value asks for. Either may lie beyond the size: the last where there is no end, the first where no byte at the end is asked for.
func ends(value string, size int) (first, last int, ok bool) {
	span, ok := strings.CutPrefix(value, "bytes=")
	from, to, dash := strings.Cut(span, "-")
	switch {
	case !ok || !dash:
		return 0, 0, false
	case from == "":
		n, ok := enc.Int(to)
		return size - min(n, size), math.MaxInt, ok
	case to == "":
		first, ok := enc.Int(from)
		return first, math.MaxInt, ok
	default:
		first, ok := enc.Int(from)
		last, also := enc.Int(to)
		return first, last, ok && also
	}
}
