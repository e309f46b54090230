package chars

import "strings"

const (
	tokenSigns = "!#$%&'*+-.^_`|~"
	blanks     = " \t"
	minBucket  = 3
	maxBucket  = 63
	maxKey     = 1024
)

// Token tells whether s is a word such as a header's name.
func Token(s string) bool {
	return s != "" && everyByte(s, isTokenByte)
}

// Value tells whether s may be a header's value.
func Value(s string) bool {
	return everyByte(s, isValueByte)
}

// Trim answers s without blanks and tabs at both ends.
func Trim(s string) string {
	return strings.Trim(s, blanks)
}

// Fold answers s with one blank for each run of blanks and tabs within, and none at the ends.
func Fold(s string) string {
	return strings.Join(strings.FieldsFunc(s, isBlank), " ")
}

// Lower tells A to Z as a to z. It goes by bytes, for other letters and what is not UTF-8 must stay as they are.
func Lower(s string) string {
	b := []byte(s)
	for i, c := range b {
		if isUpper(c) {
			b[i] = c - 'A' + 'a'
		}
	}
	return string(b)
}

// Split answers what stands between the seps of s.
func Split(s string, sep byte) []string {
	// string(sep) would be a character, which above 7F has two bytes.
	return strings.Split(s, string([]byte{sep}))
}

// Bucket tells whether s may be a bucket's name.
func Bucket(s string) bool {
	if len(s) < minBucket || len(s) > maxBucket || !everyByte(s, isBucketByte) {
		return false
	}
	if !isLowerOrDigit(s[0]) || !isLowerOrDigit(s[len(s)-1]) {
		return false
	}
	return !strings.Contains(s, "..") && !isAddress(s)
}

// isAddress tells whether s has the form of a machine's address, however great its numbers are. Bucket asks where no piece can be empty.
func isAddress(s string) bool {
	runs := Split(s, '.')
	if len(runs) != 4 {
		return false
	}
	for _, run := range runs {
		if !everyByte(run, isDigit) {
			return false
		}
	}
	return true
}

// Key tells whether s may be an object's key.
func Key(s string) bool {
	return len(s) >= 1 && len(s) <= maxKey && everyCharacter(s, isNotZero)
}

func everyByte(s string, holds func(c byte) bool) bool {
	for i := range len(s) {
		if !holds(s[i]) {
			return false
		}
	}
	return true
}

func isTokenByte(c byte) bool {
	return isLetterOrDigit(c) || strings.IndexByte(tokenSigns, c) >= 0
}

func isValueByte(c byte) bool {
	return c == '\t' || c >= 0x20 && c != 0x7F
}

func isBucketByte(c byte) bool {
	return isLowerOrDigit(c) || c == '-' || c == '.'
}

func isLetterOrDigit(c byte) bool {
	return isUpper(c) || isLowerOrDigit(c)
}

func isLowerOrDigit(c byte) bool {
	return 'a' <= c && c <= 'z' || isDigit(c)
}

func isUpper(c byte) bool {
	return 'A' <= c && c <= 'Z'
}

func isDigit(c byte) bool {
	return '0' <= c && c <= '9'
}

func isBlank(r rune) bool {
	return r == ' ' || r == '\t'
}

func isNotZero(r rune) bool {
	return r != 0
}
