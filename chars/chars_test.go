package chars

import (
	"fmt"
	"net/url"
	"regexp"
	"slices"
	"strings"
	"testing"
	"unicode/utf8"
)

// texts calls f with every text over the given bytes that is at most n long.
func texts(over string, n int, f func(s string)) {
	var grow func(b []byte)
	grow = func(b []byte) {
		f(string(b))
		if len(b) == n {
			return
		}
		for i := range len(over) {
			grow(append(slices.Clip(b), over[i]))
		}
	}
	grow(nil)
}

// edgeBytes are those at which UTF-8 changes what may stand beside them, and some between.
const edgeBytes = "\x00\x41\x7f\x80\x8f\x90\x9f\xa0\xbd\xbf\xc0\xc1\xc2\xdf\xe0\xe1\xec\xed\xee\xef\xf0\xf1\xf3\xf4\xf5\xf7\xf8\xff"

// form is the form of UTF-8 of n bytes for the number v, shortest or not.
func form(v, n int) string {
	if n == 1 {
		return string([]byte{byte(v)})
	}
	b := make([]byte, n)
	for i := n - 1; i > 0; i-- {
		b[i] = 0x80 | byte(v&0x3F)
		v >>= 6
	}
	b[0] = byte(0xFF<<(8-n)) | byte(v)
	return string(b)
}

// forms calls f with every form of every number, and tells whether it is UTF-8.
func forms(f func(v int, s string, is bool)) {
	least := [5]int{0, 0, 0x80, 0x800, 0x10000}
	most := [5]int{0, 0x7F, 0x7FF, 0xFFFF, 0x1FFFFF}
	for n := 1; n <= 4; n++ {
		for v := 0; v <= most[n]; v++ {
			f(v, form(v, n), v >= least[n] && v <= 0x10FFFF && (v < 0xD800 || v > 0xDFFF))
		}
	}
}

// characters are texts of one character, from each place where their length or their being legal changes.
func characters() []string {
	var l []string
	for _, v := range []rune{
		0, 8, 9, 0xA, 0xB, 0xC, 0xD, 0xE, 0x1F, 0x20, 'a', '%', '/', 0x7E, 0x7F, 0x80, 0xE9, 0x7FF, 0x800, 0x20AC, 0xD7FF, 0xE000, 0xFDD0, 0xFEFF,
		0xFFFC, 0xFFFD, 0xFFFE, 0xFFFF, 0x10000, 0x1F600, 0x1FFFE, 0x10FFFD, 0x10FFFE, 0x10FFFF,
	} {
		l = append(l, string(v))
	}
	return l
}

// broken are texts that are not UTF-8.
func broken() []string {
	return []string{
		"\xC0\x80", "\xED\xA0\x80", "\xED\xBF\xBF", "\xC1\xBF", "\xE0\x9F\xBF", "\xF0\x8F\xBF\xBF", "\xF4\x90\x80\x80", "\xF5\x80\x80\x80",
		"\x80", "\xBF", "\xC3", "\xE2\x82", "\xE2", "\xF0\x9F\x98", "\xEF\xBF", "\xEF", "\xFF", "\xFE", "\xF8\x88\x80\x80\x80", "\xFC\x84\x80\x80\x80\x80", "\xE2\x28\xA1", "\xC3\x28",
	}
}

// 3.1

func TestValidOfEveryForm(t *testing.T) {
	forms(func(v int, s string, is bool) {
		if Valid(s) != is {
			t.Fatalf("%x %q", v, s)
		}
	})
}

func TestValidOfEdges(t *testing.T) {
	texts(edgeBytes, 4, func(s string) {
		is := utf8.ValidString(s)
		n, ok := Count(s)
		if Valid(s) != is || ok != is || is && n != utf8.RuneCountInString(s) || !is && n != 0 || !is && (Legal(s) || Key(s)) {
			t.Fatalf("%q: %d %v", s, n, ok)
		}
	})
}

func TestValidInTheMidst(t *testing.T) {
	for _, s := range broken() {
		for _, around := range []string{"", "a", "é", "\uFFFD", "\U0001F600"} {
			for _, whole := range []string{around + s, s + around, around + s + around, around + around + s} {
				n, ok := Count(whole)
				if Valid(whole) || Legal(whole) || Key(whole) || ok || n != 0 {
					t.Errorf("%q", whole)
				}
			}
		}
	}
}

func TestCount(t *testing.T) {
	for s, want := range map[string]int{
		"": 0, "a": 1, "é€": 2, "\uFFFD": 1, "\uFFFD\uFFFD\uFFFD": 3, "\x00": 1, "é€\U0001F600\uFFFD": 4, "e\u0301": 2, "\r\n": 2, strings.Repeat("€", 5000): 5000,
	} {
		if n, ok := Count(s); n != want || !ok || !Valid(s) {
			t.Errorf("%q: %d %v", s, n, ok)
		}
	}
	for _, s := range append(broken(), "é€\xC3", "\uFFFD\xFF") {
		if n, ok := Count(s); n != 0 || ok {
			t.Errorf("%q: %d %v", s, n, ok)
		}
	}
}

func TestLegalOfEveryForm(t *testing.T) {
	forms(func(v int, s string, is bool) {
		character := v == 9 || v == 0xA || v == 0xD || v >= 0x20 && v <= 0xD7FF || v >= 0xE000 && v <= 0xFFFD || v >= 0x10000
		if Legal(s) != (is && character) {
			t.Fatalf("%x %q", v, s)
		}
	})
}

func TestLegal(t *testing.T) {
	for _, s := range []string{"", "a\t\n\r é", "\x7f", "\uD7FF\uE000", "\uFFFD", "<&>\"'", "\U00010000\U0010FFFF"} {
		if !Legal(s) {
			t.Errorf("%q", s)
		}
	}
	for _, s := range []string{"a\x00", "\x0Ba", "é\x1F\u00E9", "a\uFFFE", "\uFFFFa", "\uFFFD\uFFFE", "a\xFF", "\xED\xA0\x80"} {
		if Legal(s) {
			t.Errorf("%q", s)
		}
	}
}

// 3.2

func TestEscape(t *testing.T) {
	for _, c := range []struct {
		s     string
		slash bool
		want  string
	}{
		{"a b/é", true, "a%20b/%C3%A9"},
		{"a b/é", false, "a%20b%2F%C3%A9"},
		{"", true, ""},
		{"", false, ""},
		{"AZaz09-._~", false, "AZaz09-._~"},
		{"a/~-._*+", false, "a%2F~-._%2A%2B"},
		{"//", true, "//"},
		{"%41", true, "%2541"},
		{"\x00\xFF\xC0\x80", true, "%00%FF%C0%80"},
	} {
		if got := Escape(c.s, c.slash); got != c.want {
			t.Errorf("%q %v: %s", c.s, c.slash, got)
		}
	}
}

func TestEscapeOfEachByte(t *testing.T) {
	stays := "ABCDEFGHIJKLMNOPQRSTUVWXYZabcdefghijklmnopqrstuvwxyz0123456789-._~"
	for c := range 256 {
		s := string([]byte{byte(c)})
		for _, slash := range []bool{false, true} {
			want := fmt.Sprintf("%%%02X", c)
			if strings.Contains(stays, s) || slash && s == "/" {
				want = s
			}
			if got := Escape(s, slash); got != want {
				t.Errorf("%q %v: %s", s, slash, got)
			}
		}
	}
}

func TestUnescape(t *testing.T) {
	for s, want := range map[string]string{
		"a%2fb+": "a/b+", "": "", "a%2fb+%2F%00": "a/b+/\x00", "%aA%Aa%fF": "\xAA\xAA\xFF", "%25%25": "%%", "%2541": "%41", "a b\x00\xFF": "a b\x00\xFF", "+": "+", "%c3%a9": "é", "é": "é", "%410": "A0",
	} {
		if got, ok := Unescape(s); got != want || !ok {
			t.Errorf("%q: %q %v", s, got, ok)
		}
	}
	for _, s := range []string{"100%", "%", "%2", "a%2", "%zz", "%%41", "%4%1", "%4g", "%g4", "%+1", "% 1", "%1 ", "%-1", "%0x", "%é", "%2%", "%41%", "abc%41%4", "%\x00\x00", "%２５"} {
		if got, ok := Unescape(s); got != "" || ok {
			t.Errorf("%q: %q %v", s, got, ok)
		}
	}
}

func TestUnescapeOfAllPairs(t *testing.T) {
	for i := range 1 << 16 {
		s := "%" + string([]byte{byte(i >> 8), byte(i)})
		want, err := url.PathUnescape(s)
		if got, ok := Unescape(s); ok != (err == nil) || ok && got != want || !ok && got != "" {
			t.Fatalf("%q: %q %v", s, got, ok)
		}
	}
}

// 3.3

func TestToken(t *testing.T) {
	signs := "!#$%&'*+-.^_`|~"
	for c := range 256 {
		b := byte(c)
		want := b >= 'A' && b <= 'Z' || b >= 'a' && b <= 'z' || b >= '0' && b <= '9' || strings.Contains(signs, string([]byte{b}))
		for _, s := range []string{string([]byte{b}), string([]byte{'a', b}), string([]byte{b, 'a'}), string([]byte{'a', b, 'a'})} {
			if Token(s) != want {
				t.Errorf("%q", s)
			}
		}
	}
	if Token("") || !Token("aZ9"+signs) || !Token("x-amz-date") || Token("a b") || Token("é") || Token("a\\") {
		t.Error("tokens")
	}
}

func TestValue(t *testing.T) {
	for c := range 256 {
		b := byte(c)
		want := b == 9 || b >= 0x20 && b != 0x7F
		for _, s := range []string{string([]byte{b}), string([]byte{'a', b}), string([]byte{b, 'a'}), string([]byte{'a', b, 'a'})} {
			if Value(s) != want {
				t.Errorf("%q", s)
			}
		}
	}
	if !Value("") || !Value(" a\t é\xff ") || Value("a\r\nb") || Value("a\x00") {
		t.Error("values")
	}
}

func TestTrim(t *testing.T) {
	for s, want := range map[string]string{
		"": "", " ": "", " \t \t": "", " \ta b\t ": "a b", "a": "a", "a \t b": "a \t b", "\n": "\n", " \n ": "\n", "\u00A0a\u00A0": "\u00A0a\u00A0", "\r a\v": "\r a\v", " \xFF ": "\xFF", "\u3000 a": "\u3000 a", "\x00 ": "\x00",
	} {
		if got := Trim(s); got != want {
			t.Errorf("%q: %q", s, got)
		}
	}
}

func TestFold(t *testing.T) {
	for s, want := range map[string]string{
		"  a \t b ": "a b", "": "", " \t": "", "a": "a", "a b": "a b", "a\tb": "a b", "a\t\tb  c": "a b c", "a\n\nb": "a\n\nb", "a \n b": "a \n b", "\u00A0 \u00A0": "\u00A0 \u00A0", " \xFF\xC3  \xC3\xA9": "\xFF\xC3 é", "\x00  \x00": "\x00 \x00", "\uFFFD\t\uFFFD": "\uFFFD \uFFFD",
	} {
		if got := Fold(s); got != want {
			t.Errorf("%q: %q", s, got)
		}
	}
}

func TestTrimAndFoldOfManyTexts(t *testing.T) {
	ends, runs := regexp.MustCompile(`^[ \t]+|[ \t]+$`), regexp.MustCompile(`[ \t]+`)
	texts(" \ta\n\xFF", 6, func(s string) {
		// A regular expression would change what is not UTF-8.
		stand := strings.ReplaceAll(s, "\xFF", "z")
		trimmed := ends.ReplaceAllString(stand, "")
		folded := runs.ReplaceAllString(trimmed, " ")
		if got := strings.ReplaceAll(Trim(s), "\xFF", "z"); got != trimmed {
			t.Fatalf("%q: %q", s, got)
		}
		if got := strings.ReplaceAll(Fold(s), "\xFF", "z"); got != folded {
			t.Fatalf("%q: %q", s, got)
		}
	})
}

func TestLower(t *testing.T) {
	for c := range 256 {
		want := byte(c)
		if c >= 'A' && c <= 'Z' {
			want += 32
		}
		if got := Lower(string([]byte{byte(c), 'Q', byte(c)})); got != string([]byte{want, 'q', want}) {
			t.Errorf("%x: %q", c, got)
		}
	}
	for s, want := range map[string]string{"": "", "AZÉ[@": "azÉ[@", "X-Amz-Date": "x-amz-date", "\u212A": "\u212A", "İ": "İ", "\xC3A": "\xC3a"} {
		if got := Lower(s); got != want {
			t.Errorf("%q: %q", s, got)
		}
	}
}

func TestSplit(t *testing.T) {
	for _, c := range []struct {
		s    string
		sep  byte
		want []string
	}{
		{"", ',', []string{""}},
		{",", ',', []string{"", ""}},
		{"a", ',', []string{"a"}},
		{"a,,b", ',', []string{"a", "", "b"}},
		{",a,", ',', []string{"", "a", ""}},
		{"a, b", ',', []string{"a", " b"}},
		{"a,b;c", ';', []string{"a,b", "c"}},
		{"a\x00b", 0, []string{"a", "b"}},
		{"é", 0xC3, []string{"", "\xA9"}},
		{"é", 0xA9, []string{"\xC3", ""}},
		{"\xFFa\xFF\xFF", 0xFF, []string{"", "a", "", ""}},
		{"ÿ", 0xFF, []string{"ÿ"}},
	} {
		if got := Split(c.s, c.sep); !slices.Equal(got, c.want) {
			t.Errorf("%q %q: %q", c.s, c.sep, got)
		}
	}
}

// 3.4

func TestBucket(t *testing.T) {
	for _, s := range []string{
		"a.b", "abc", "123", "1a2", "a-b", "a--b", "a-.b", "a.-b", "1.2.3", "1.2.3.4.5", "1.2.3.4a", "a1.2.3.4", "1.2.3-4.5", "1-1.2.3.4", "1.2.3.a", "1234567", "my-bucket.example",
		strings.Repeat("a", 63), strings.Repeat("9", 63), strings.Repeat("a.", 31) + "a",
	} {
		if !Bucket(s) {
			t.Error(s)
		}
	}
	for _, s := range []string{
		"", "a", "ab", "a..b", "192.168.5.4", "1.2.3.4", "999.999.999.999", "00000.0.0.0000", "0.0.0." + strings.Repeat("1", 57), "-ab", "ab-", ".ab", "ab.", "aB1", "Abc", "abC", "a_b", "a b", "a/b", "a\x00b", "aéb", "abc\n", "a...b",
		strings.Repeat("a", 64), strings.Repeat("a", 5000), "...", "---",
	} {
		if Bucket(s) {
			t.Errorf("%q", s)
		}
	}
}

func TestBucketOfEachByte(t *testing.T) {
	for c := range 256 {
		b := byte(c)
		end := b >= 'a' && b <= 'z' || b >= '0' && b <= '9'
		for i := range 5 {
			s := []byte("abcde")
			s[i] = b
			want := end || 0 < i && i < 4 && (b == '-' || b == '.')
			if Bucket(string(s)) != want {
				t.Errorf("%q", s)
			}
		}
	}
}

func TestBucketOfManyTexts(t *testing.T) {
	shape, address := regexp.MustCompile(`^[a-z0-9][a-z0-9.-]{1,61}[a-z0-9]$`), regexp.MustCompile(`^[0-9]+(\.[0-9]+){3}$`)
	texts("a1.-", 9, func(s string) {
		want := shape.MatchString(s) && !strings.Contains(s, "..") && !address.MatchString(s)
		if Bucket(s) != want {
			t.Fatalf("%q", s)
		}
	})
}

func TestKey(t *testing.T) {
	for _, s := range []string{
		"k", "/", "a/b//c", "\n", "\x01", "\x7F", "\uFFFD", "\uFFFE", "é", " ", "..", "%00", strings.Repeat("k", 1024), strings.Repeat("é", 512), strings.Repeat("\U0001F600", 256),
	} {
		if !Key(s) {
			t.Errorf("%q", s)
		}
	}
	for _, s := range append(broken(),
		"", "\x00", "a\x00", "\x00a", "a\x00a", strings.Repeat("k", 1025), strings.Repeat("é", 513), strings.Repeat("é", 512)+"a", strings.Repeat("k", 1023)+"é", strings.Repeat("k", 1023)+"\xC3", strings.Repeat("k", 1023)+"\x00",
	) {
		if Key(s) {
			t.Errorf("%q", s)
		}
	}
}

func TestKeyOfEveryForm(t *testing.T) {
	forms(func(v int, s string, is bool) {
		if Key("a"+s) != (is && v != 0) {
			t.Fatalf("%x %q", v, s)
		}
	})
}

// 3.5

var escapedForm = regexp.MustCompile(`^[A-Za-z0-9._~%/-]*$`)

// thereAndBack tells what 3.5 promises of s and sep, if it does not hold.
func thereAndBack(s string, sep byte) string {
	for _, slash := range []bool{false, true} {
		e := Escape(s, slash)
		if got, ok := Unescape(e); got != s || !ok {
			return fmt.Sprintf("Unescape(Escape(%q, %v)): %q %v", s, slash, got, ok)
		}
		if !escapedForm.MatchString(e) || !slash && strings.Contains(e, "/") {
			return fmt.Sprintf("Escape(%q, %v): %q", s, slash, e)
		}
	}
	l := Split(s, sep)
	between := string([]byte{sep})
	if strings.Join(l, between) != s || len(l) != strings.Count(s, between)+1 || strings.Contains(strings.Join(l, ""), between) {
		return fmt.Sprintf("Split(%q, %q): %q", s, sep, l)
	}
	return ""
}

func TestThereAndBack(t *testing.T) {
	texts("a%/,2\xC3\xA9\x00", 5, func(s string) {
		for _, sep := range []byte{',', 0xC3, 0, '?'} {
			if fault := thereAndBack(s, sep); fault != "" {
				t.Fatal(fault)
			}
		}
	})
	all := make([]byte, 256)
	for i := range all {
		all[i] = byte(i)
	}
	for i := range 256 {
		if fault := thereAndBack(string(all), byte(i)); fault != "" {
			t.Error(fault)
		}
		if fault := thereAndBack(string(all[i:])+string(all[:i]), 'a'); fault != "" {
			t.Error(fault)
		}
	}
}

// 3.6

func TestTextsPutTogether(t *testing.T) {
	l := characters()
	for _, a := range l {
		for _, b := range l {
			for _, c := range l {
				n, ok := Count(a + b + c)
				if n != 3 || !ok || !Valid(a+b+c) {
					t.Fatalf("%q: %d %v", a+b+c, n, ok)
				}
				if Legal(a+b+c) != (Legal(a) && Legal(b) && Legal(c)) {
					t.Fatalf("%q", a+b+c)
				}
			}
		}
	}
}

func TestCountGoesByCharacters(t *testing.T) {
	for _, c := range characters() {
		for n := range 50 {
			if got, ok := Count(strings.Repeat(c, n)); got != n || !ok {
				t.Errorf("%q: %d %v", c, got, ok)
			}
		}
	}
}

// 3.7

func TestSplitIsNewMemory(t *testing.T) {
	for _, s := range []string{"", "a", "a,b", ",,,"} {
		first, second := Split(s, ','), Split(s, ',')
		want := slices.Clone(second)
		room := first[:cap(first)]
		for i := range room {
			room[i] = "!"
		}
		if !slices.Equal(second, want) || !slices.Equal(Split(s, ','), want) {
			t.Errorf("%q", s)
		}
	}
}

// TestHostile holds what is answered against nothing: a panic or a call without end breaks it.
func TestHostile(t *testing.T) {
	for c := range 256 {
		for _, n := range []int{0, 1, 2, 3, 4, 63, 64, 1024, 1 << 14} {
			s := strings.Repeat(string([]byte{byte(c)}), n)
			callAll(s, byte(c))
			callAll("%"+s, '%')
			callAll(s+"\xEF\xBF", 0xFF)
		}
	}
}

func callAll(s string, sep byte) {
	Valid(s)
	Count(s)
	Legal(s)
	Escape(s, true)
	Unescape(s)
	Token(s)
	Value(s)
	Trim(s)
	Fold(s)
	Lower(s)
	Split(s, sep)
	Bucket(s)
	Key(s)
}

func FuzzTexts(f *testing.F) {
	f.Add("", "", byte(0))
	f.Add("a b/é", "a%2fb+", byte('/'))
	f.Add("100%", "\xED\xA0", byte(0xED))
	f.Add("192.168.5.4", "  a \t b ", byte('.'))
	f.Fuzz(func(t *testing.T, a, b string, sep byte) {
		callAll(a, sep)
		if fault := thereAndBack(a+b, sep); fault != "" {
			t.Error(fault)
		}
		if Valid(a) != utf8.ValidString(a) || Valid(a) && Valid(b) && !Valid(a+b) {
			t.Errorf("%q %q", a, b)
		}
		if n, ok := Count(a); ok && n != utf8.RuneCountInString(a) || !ok && n != 0 {
			t.Errorf("%q: %d %v", a, n, ok)
		}
		if Fold(Fold(a)) != Fold(a) || Trim(Fold(a)) != Fold(a) || Fold(Trim(a)) != Fold(a) || len(Lower(a)) != len(a) {
			t.Errorf("%q", a)
		}
	})
}
