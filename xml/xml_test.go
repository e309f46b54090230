package xml

import (
	"fmt"
	"maps"
	"regexp"
	"slices"
	"strconv"
	"strings"
	"testing"
	"time"
	"unsafe"
)

// texts calls f with every text of at most n of the pieces.
func texts(pieces []string, n int, f func(s string)) {
	var grow func(s string, n int)
	grow = func(s string, n int) {
		f(s)
		for _, piece := range pieces {
			if n > 0 {
				grow(s+piece, n-1)
			}
		}
	}
	grow("", n)
}

// allBytes are the texts of one byte.
func allBytes() []string {
	var l []string
	for c := range 256 {
		l = append(l, string([]byte{byte(c)}))
	}
	return l
}

// isXML tells whether c is the number of a character that a document may hold.
func isXML(c int64) bool {
	return c == 9 || c == 0xA || c == 0xD || 0x20 <= c && c <= 0xD7FF || 0xE000 <= c && c <= 0xFFFD || 0x10000 <= c && c <= 0x10FFFF
}

// lists calls f with every list of nodes in n.
func lists(n Node, f func(l []Node)) {
	if cap(n.Kids) > 0 {
		f(n.Kids)
	}
	for _, kid := range n.Kids {
		lists(kid, f)
	}
}

// spoil changes every list of nodes in n, and its spare room.
func spoil(n Node) {
	var all [][]Node
	lists(n, func(l []Node) { all = append(all, l) })
	for _, l := range all {
		l = l[:cap(l)]
		for i := range l {
			l[i] = Node{"spoilt", "spoilt", nil}
		}
	}
}

// apart tells whether no two lists in the nodes share a node, in use or spare.
func apart(nodes ...Node) bool {
	met := map[*Node]bool{}
	ok := true
	for _, n := range nodes {
		lists(n, func(l []Node) {
			for i := range cap(l) {
				at := &l[:cap(l)][i]
				ok = ok && !met[at]
				met[at] = true
			}
		})
	}
	return ok
}

// same tells whether a and b are one node, in which no list is as good as an empty one.
func same(a, b Node) bool {
	return a.Name == b.Name && a.Text == b.Text && slices.EqualFunc(a.Kids, b.Kids, same)
}

// fresh tells n in lists of its own, without spare room.
func fresh(n Node) Node {
	kids := make([]Node, 0, len(n.Kids))
	for _, kid := range n.Kids {
		kids = append(kids, fresh(kid))
	}
	return Node{n.Name, n.Text, kids}
}

// ends fails the test if f takes far too long.
func ends(t *testing.T, what string, f func()) {
	t.Helper()
	done := make(chan struct{})
	go func() {
		f()
		close(done)
	}()
	select {
	case <-done:
	case <-time.After(time.Minute):
		t.Fatal("no end: ", what)
	}
}

// 13.1

func TestName(t *testing.T) {
	for _, s := range []string{"a", "z", "A", "Z", "_", "__", "a1", "a-", "a.", "a-1._Z", "_1", "_-", "_.", "Contents", "xml", strings.Repeat("a", 100000)} {
		if !Name(s) {
			t.Errorf("%q is none", s)
		}
	}
	for _, s := range []string{"", "1", "1a", "-", "-a", ".", ".a", ":", "a:b", "a b", " a", "a ", "a\n", "é", "aé", "a\xff", "\xff", "a\x00", "a/", "<a", "\uFF21", "a\u0391", "\u212A", "a\u017F"} {
		if Name(s) {
			t.Errorf("%q is one", s)
		}
	}
}

func TestNameOfShortTexts(t *testing.T) {
	name := regexp.MustCompile(`\A[A-Za-z_][A-Za-z0-9_.-]*\z`)
	texts(allBytes(), 2, func(s string) {
		if is := Name(s); is != name.MatchString(s) {
			t.Errorf("%q: %v", s, is)
		}
	})
	for _, c := range allBytes() {
		if is := Name("a1" + c + "b"); is != name.MatchString("a"+c) {
			t.Errorf("%q: %v", c, is)
		}
	}
}

func TestEscape(t *testing.T) {
	for s, want := range map[string]string{
		"":               "",
		"&":              "&amp;",
		"<":              "&lt;",
		">":              "&gt;",
		`"`:              "&quot;",
		"\r":             "&#13;",
		"'":              "'",
		"\n\t ":          "\n\t ",
		"\r\n":           "&#13;\n",
		"&amp;":          "&amp;amp;",
		"x&y<>\"'\r":     "x&amp;y&lt;&gt;&quot;'&#13;",
		"&&":             "&amp;&amp;",
		"é€\U0001F600<é": "é€\U0001F600&lt;é",
		"\xff<\xc3&\x00": "\xff&lt;\xc3&amp;\x00",
		"\uFFFD":         "\uFFFD",
	} {
		if got := Escape(s); got != want {
			t.Errorf("%q: %q", s, got)
		}
	}
}

func TestEscapeByteByByte(t *testing.T) {
	escapes := map[string]string{"&": "&amp;", "<": "&lt;", ">": "&gt;", `"`: "&quot;", "\r": "&#13;"}
	texts(allBytes(), 2, func(s string) {
		want := ""
		for i := range len(s) {
			if e, ok := escapes[s[i:i+1]]; ok {
				want += e
			} else {
				want += s[i : i+1]
			}
		}
		if got := Escape(s); got != want {
			t.Errorf("%q: %q", s, got)
		}
	})
}

func TestUnescape(t *testing.T) {
	for s, want := range map[string]string{
		"":                              "",
		"abc é€\U0001F600":              "abc é€\U0001F600",
		"&amp;":                         "&",
		"&lt;":                          "<",
		"&gt;":                          ">",
		"&quot;":                        `"`,
		"&apos;":                        "'",
		"&#13;":                         "\r",
		"&amp;lt;":                      "&lt;",
		"&#38;lt;":                      "&lt;",
		"a&lt;b&gt;c":                   "a<b>c",
		"&lt;&lt;":                      "<<",
		"<>\"';":                        "<>\"';",
		"&#9;&#10;&#32;":                "\t\n ",
		"&#x9;&#xA;&#xa;&#xD;&#xd;":     "\t\n\n\r\r",
		"&#65;&#065;&#0000065;":         "AAA",
		"&#x41;&#x041;&#x0000041;":      "AAA",
		"&#xABCD;&#xabcd;&#xaBcD;":      "\uABCD\uABCD\uABCD",
		"&#233;&#xE9;&#8364;&#x20ac;":   "éé€€",
		"&#128512;&#x1F600;":            "\U0001F600\U0001F600",
		"&#55295;&#xD7FF;":              "\uD7FF\uD7FF",
		"&#57344;&#xE000;":              "\uE000\uE000",
		"&#65533;&#xFFFD;":              "\uFFFD\uFFFD",
		"&#65536;&#x10000;":             "\U00010000\U00010000",
		"&#1114111;&#x10FFFF;":          "\U0010FFFF\U0010FFFF",
		"&#x010FFFF;":                   "\U0010FFFF",
		"\r\n":                          "\n",
		"\r":                            "\n",
		"\n":                            "\n",
		"\n\r":                          "\n\n",
		"\r\r\n\n\r":                    "\n\n\n\n",
		"a\r\nb\rc":                     "a\nb\nc",
		"&#13;\n":                       "\r\n",
		"&#13;\r\n":                     "\r\n",
		"\r&#10;":                       "\n\n",
		"&#xd;&#xa;":                    "\r\n",
		"a\r\nb\rc&#13;&#xd;&quot;":     "a\nb\nc\r\r\"",
		"\xff&lt;\xc3":                  "\xff<\xc3",
		"\x00\x01":                      "\x00\x01",
		"\uFFFD":                        "\uFFFD",
		strings.Repeat("&#x1F600;", 99): strings.Repeat("\U0001F600", 99),
	} {
		if got, ok := Unescape(s); got != want || !ok {
			t.Errorf("%q: %q %v", s, got, ok)
		}
	}
}

func TestUnescapeOfWrongOnes(t *testing.T) {
	for _, s := range []string{
		"&", "&&", "&;", "& ", "a&", "a&b", "a & b", "&amp", "&amp ;", "& amp;", "&AMP;", "&Amp;", "&am;", "&ampx;", "&lt", "&LT;", "&nbsp;", "&x;", "&apo;", "&apos", "&amp;&", "&&amp;", "&lt&gt;", "&quot ", "&\r\namp;",
		"&#;", "&#", "&#x;", "&#x", "&#X41;", "&#x41", "&#65", "&#65 ;", "&# 65;", "&#+65;", "&#-65;", "&#x+41;", "&#x-1;", "&#6_5;", "&#x4_1;", "&#0x41;", "&#a;", "&#1a;", "&#xg;", "&#x4G;", "&#x 41;", "&#1.;", "&#\uFF11;", "&#65&;", "&#6\r\n5;",
		"&#00000065;", "&#12345678;", "&#x00000041;", "&#x12345678;", "&#00000000000000000065;", "&#99999999999999999999;",
		"&#0;", "&#0000000;", "&#x0;", "&#1;", "&#8;", "&#11;", "&#12;", "&#14;", "&#31;", "&#x1F;", "&#xB;", "&#xc;", "&#55296;", "&#xD800;", "&#xDBFF;", "&#xDC00;", "&#xdfff;", "&#57343;", "&#65534;", "&#65535;", "&#xFFFE;", "&#xffff;", "&#1114112;", "&#x110000;", "&#x1000041;", "&#9999999;", "&#xFFFFFFF;",
	} {
		for _, s := range []string{s, "x" + s, s + "x", "&lt;" + s + "&gt;"} {
			if want, also := unescaped(s); also {
				t.Fatalf("%q: the reference tells %q", s, want)
			}
			if got, ok := Unescape(s); got != "" || ok {
				t.Errorf("%q: %q %v", s, got, ok)
			}
		}
	}
}

var (
	lineEnd    = regexp.MustCompile("\r\n?")
	escape     = regexp.MustCompile(`&(?:(amp|lt|gt|quot|apos)|#([0-9]{1,7})|#x([0-9A-Fa-f]{1,7}));`)
	characters = map[string]string{"amp": "&", "lt": "<", "gt": ">", "quot": `"`, "apos": "'"}
)

// unescaped is what 13.1 says of Unescape, by a pattern of the escapes: what it leaves must have no `&`.
func unescaped(s string) (string, bool) {
	s = lineEnd.ReplaceAllLiteralString(s, "\n")
	if strings.Contains(strings.Join(escape.Split(s, -1), ""), "&") {
		return "", false
	}
	ok := true
	answer := escape.ReplaceAllStringFunc(s, func(e string) string {
		m := escape.FindStringSubmatch(e)
		if m[1] != "" {
			return characters[m[1]]
		}
		n, _ := strconv.ParseInt(m[2]+m[3], map[bool]int{true: 16, false: 10}[m[3] != ""], 64)
		ok = ok && isXML(n)
		return string(rune(n))
	})
	if !ok {
		return "", false
	}
	return answer, true
}

func TestUnescapeByThePattern(t *testing.T) {
	check := func(s string) {
		want, also := unescaped(s)
		if got, ok := Unescape(s); got != want || ok != also {
			t.Errorf("%q: %q %v, not %q %v", s, got, ok, want, also)
		}
	}
	texts([]string{"&", "#", "x", ";", "1", "9", "A", "f", "lt", "\r", "\n", "é", "\xff"}, 5, check)
	texts([]string{"&#", "&#x", "0", "1", "D", ";", "&amp;"}, 6, check)
	texts([]string{"&#x", "0", "F", "d", "8", "1", ";"}, 6, func(s string) { check("&#x" + s + ";") })
	for _, c := range allBytes() {
		for _, s := range []string{"&" + c, "&#" + c + ";", "&#x" + c + ";", "&#4" + c + ";", "&#x4" + c + ";", "&lt" + c, "&" + c + "t;", "&lt;" + c, c + "&lt;"} {
			check(s)
		}
	}
}

func TestUnescapeOfEachCharacter(t *testing.T) {
	for c := int64(0); c <= 0x110100; c++ {
		if c > 0x10100 && c < 0x10FF00 && c%101 != 0 {
			continue
		}
		want := ""
		if isXML(c) {
			want = string(rune(c))
		}
		for _, s := range []string{fmt.Sprintf("&#%d;", c), fmt.Sprintf("&#x%X;", c), fmt.Sprintf("&#x%07x;", c)} {
			if got, ok := Unescape(s); got != want || ok != isXML(c) {
				t.Fatalf("%s: %q %v", s, got, ok)
			}
		}
	}
}

func TestUnescapeOfEscape(t *testing.T) {
	check := func(s string) {
		e := Escape(s)
		if strings.ContainsAny(e, "<>\"\r") {
			t.Errorf("%q: %q", s, e)
		}
		if got, ok := Unescape(e); got != s || !ok {
			t.Errorf("%q: %q %v", s, got, ok)
		}
	}
	texts(allBytes(), 2, check)
	texts([]string{"&", "<", ">", `"`, "'", "\r", "\n", ";", "amp", "#13", "é", "\xff"}, 5, check)
}

// 13.3

func TestOf(t *testing.T) {
	for _, name := range []string{"", "a", "a b", "\xff"} {
		for _, text := range []string{"", "x&y", "\x01", "\r\n"} {
			if n := Of(name, text); n.Name != name || n.Text != text || n.Kids != nil {
				t.Errorf("%q %q: %v", name, text, n)
			}
		}
	}
}

func TestKid(t *testing.T) {
	n := Node{"a", "", []Node{Of("b", "1"), Of("c", "2"), Of("b", "3"), {"d", "", []Node{Of("e", "4"), {"f", "", []Node{Of("b", "5")}}}}, Of("", "6"), Of("d", "7")}}
	for name, want := range map[string]Node{
		"b": Of("b", "1"),
		"c": Of("c", "2"),
		"d": {"d", "", []Node{Of("e", "4"), {"f", "", []Node{Of("b", "5")}}}},
		"":  Of("", "6"),
	} {
		if k, ok := Kid(n, name); !same(k, want) || !ok {
			t.Errorf("%q: %v %v", name, k, ok)
		}
	}
	for _, name := range []string{"a", "e", "f", "B", "b ", "bb", "x"} {
		if k, ok := Kid(n, name); !same(k, Node{}) || k.Kids != nil || ok {
			t.Errorf("%q: %v %v", name, k, ok)
		}
	}
	for _, n := range []Node{{}, Of("a", "a"), {"a", "", []Node{}}} {
		for _, name := range []string{"", "a"} {
			if k, ok := Kid(n, name); !same(k, Node{}) || k.Kids != nil || ok {
				t.Errorf("%v %q: %v %v", n, name, k, ok)
			}
		}
	}
}

func TestKidOfWhatNoDocumentHolds(t *testing.T) {
	n := Node{"a", "x", []Node{{"b c", "\x01", []Node{{"", "\xff", []Node{{}, Of("d", "y")}}}}}}
	if k, ok := Kid(n, "b c"); !same(k, n.Kids[0]) || !ok {
		t.Error(k, ok)
	}
	deep := Of("a", "x")
	for range 100 {
		deep = Node{"a", "", []Node{deep, Of("b", "")}}
	}
	if k, ok := Kid(deep, "a"); !same(k, deep.Kids[0]) || !ok {
		t.Error(ok)
	}
}

// 13.5

func TestKidIsNewMemory(t *testing.T) {
	list := make([]Node, 2, 5)
	list[0], list[1] = Of("d", "1"), Node{"e", "", []Node{Of("f", "2")}}
	n := Node{"a", "", []Node{{"b", "", list}, {"c", "", []Node{{"g", "", list}, {"h", "", list}}}}}
	before := fresh(n)
	for _, name := range []string{"b", "c"} {
		one, _ := Kid(n, name)
		two, _ := Kid(n, name)
		if !apart(one, two) || !apart(n.Kids[0], one) {
			t.Error(name, "shares memory")
		}
		spoil(one)
		if want, _ := Kid(before, name); !same(two, want) || !same(n, before) {
			t.Error(name, two, n)
		}
		for _, spare := range list[:5][2:] {
			if !same(spare, Node{}) {
				t.Error(name, "spare room", spare)
			}
		}
	}
	k, _ := Kid(Node{"a", "", []Node{{"b", "", make([]Node, 0, 3)}}}, "b")
	if cap(k.Kids) > 0 {
		t.Error("the room of an empty list")
	}
}

func TestKidOfManyIsNewMemory(t *testing.T) {
	wide := Node{Name: "b"}
	for range 70000 {
		wide.Kids = append(wide.Kids, Node{"c", "", []Node{Of("d", "")}})
	}
	n := Node{"a", "", []Node{wide}}
	k, ok := Kid(n, "b")
	if !ok || !same(k, wide) || !apart(n, k) {
		t.Error(ok, len(k.Kids))
	}
}

// levels tells a node with lists of n nodes on so many levels, each list the Kids of all nodes above it.
func levels(n, deep int, last Node) Node {
	for range deep {
		l := make([]Node, n)
		for i := range l {
			l[i] = last
		}
		last = Node{"a", "", l}
	}
	return last
}

// rings are nodes that hold themselves.
func rings() []Node {
	one := []Node{Of("a", "")}
	one[0].Kids = one
	three := []Node{Of("a", ""), Of("b", "x"), Of("a", "")}
	three[0].Kids = three
	three[2].Kids = three[1:]
	left, right := []Node{Of("a", ""), Of("c", "")}, []Node{Of("a", ""), Of("d", "")}
	left[0].Kids, right[0].Kids = right, left
	return []Node{{"a", "", one}, {"a", "", three}, {"a", "", left}, {"a", "", []Node{levels(9, 9, Node{"a", "", one})}}}
}

// alike tells whether the first levels of a and b are one, as far as the first and the last node of each list tell.
func alike(a, b Node, deep int) bool {
	if a.Name != b.Name || a.Text != b.Text || len(a.Kids) != len(b.Kids) {
		return false
	}
	last := len(a.Kids) - 1
	return deep == 0 || last < 0 || alike(a.Kids[0], b.Kids[0], deep-1) && alike(a.Kids[last], b.Kids[last], deep-1)
}

func TestKidEnds(t *testing.T) {
	for i, n := range append(rings(), levels(1000, 15, Of("a", "")), levels(2, 100, Of("a", ""))) {
		ends(t, "Kid", func() {
			k, ok := Kid(n, "a")
			if !ok || !alike(k, n.Kids[0], 15) {
				t.Error(i, ok)
			}
			if unsafe.SliceData(k.Kids) == unsafe.SliceData(n.Kids[0].Kids) {
				t.Error(i, "shares memory")
			}
			k.Kids[0].Name = "spoilt"
			if n.Kids[0].Kids[0].Name != "a" {
				t.Error(i, "shares memory")
			}
		})
	}
	ends(t, "Kid of a deep one", func() {
		deep := Of("a", "x")
		for range 1000000 {
			deep = Node{"a", "", []Node{deep}}
		}
		k, ok := Kid(deep, "a")
		for len(k.Kids) > 0 {
			k = k.Kids[0]
		}
		if k.Text != "x" || !ok {
			t.Error(k, ok)
		}
	})
}

func TestTextsAreNeverTooMuch(t *testing.T) {
	long := map[string]string{
		"marks":      strings.Repeat("&", 1<<20),
		"references": strings.Repeat("&amp;", 1<<18),
		"line ends":  strings.Repeat("\r", 1<<20),
		"open":       "&#" + strings.Repeat("1", 1<<20),
		"letters":    strings.Repeat("a", 1<<20),
		"bytes":      strings.Repeat("\xff", 1<<20),
	}
	for _, what := range slices.Sorted(maps.Keys(long)) {
		ends(t, what, func() {
			s := long[what]
			Name(s)
			Unescape(s)
			if got, ok := Unescape(Escape(s)); got != s || !ok {
				t.Error(what)
			}
		})
	}
}
