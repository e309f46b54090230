package xml

import (
	"regexp"
	"slices"
	"strings"
	"testing"
	"unicode/utf8"

	"stowage/api"
)

const namePattern = `[A-Za-z_][A-Za-z0-9_.-]*`

var (
	declared = regexp.MustCompile(`\A<\?xml(?:|[ \t\n\r](?s:.*?)|\?(?s:.*?))\?>`)
	opens    = regexp.MustCompile(`\A<(` + namePattern + `)(?:[ \t\n\r]+` + namePattern + `(?::` + namePattern + `)?[ \t\n\r]*=[ \t\n\r]*(?:"[^"<&]*"|'[^'<&]*'))*[ \t\n\r]*(/?)>`)
	closes   = regexp.MustCompile(`\A</(` + namePattern + `)[ \t\n\r]*>`)
	plain    = regexp.MustCompile(`\A[^<]+`)
	allWhite = regexp.MustCompile(`\A[ \t\n\r]*\z`)
)

// token is a piece of a document: its first submatches tell what it says.
type token struct {
	kind  *regexp.Regexp
	match []string
}

// tokens tells the pieces that s is made of.
func tokens(s string) ([]token, bool) {
	var l []token
	for s != "" {
		i := slices.IndexFunc([]*regexp.Regexp{opens, closes, plain}, func(p *regexp.Regexp) bool { return p.MatchString(s) })
		if i < 0 {
			return nil, false
		}
		p := []*regexp.Regexp{opens, closes, plain}[i]
		m := p.FindStringSubmatch(s)
		l = append(l, token{p, m})
		s = s[len(m[0]):]
	}
	return l, true
}

// holds tells whether the text, as it is written, may stand in n beside its kids, and puts it there if it has none.
func holds(n *Node, text string) bool {
	if len(n.Kids) > 0 {
		return allWhite.MatchString(text)
	}
	s, ok := unescaped(text)
	n.Text = s
	return ok
}

// parsed is what 13.2 says of Parse, by patterns of what stands between two `<`, and a stack.
func parsed(s string) (Node, api.Errno) {
	if len(s) > 65536 {
		return Node{}, 2
	}
	if !utf8.ValidString(s) || strings.ContainsFunc(s, func(r rune) bool { return !isXML(int64(r)) }) {
		return Node{}, 130
	}
	l, ok := tokens(s[len(declared.FindString(s)):])
	if !ok {
		return Node{}, 130
	}
	// The outermost element lies in the first of the stack, in which no text may stand.
	stack, written := []Node{{}}, []string{""}
	for _, tok := range l {
		top := len(stack) - 1
		switch tok.kind {
		case plain:
			written[top] += tok.match[0]
		case opens:
			if len(stack) > 16 {
				return Node{}, 130
			}
			if tok.match[2] == "/" {
				stack[top].Kids = append(stack[top].Kids, Of(tok.match[1], ""))
				continue
			}
			stack, written = append(stack, Of(tok.match[1], "")), append(written, "")
		case closes:
			if top == 0 || stack[top].Name != tok.match[1] || !holds(&stack[top], written[top]) {
				return Node{}, 130
			}
			stack[top-1].Kids = append(stack[top-1].Kids, stack[top])
			stack, written = stack[:top], written[:top]
		}
	}
	if len(stack) != 1 || len(stack[0].Kids) != 1 || !allWhite.MatchString(written[0]) {
		return Node{}, 130
	}
	return stack[0].Kids[0], 0
}

// agrees holds Parse of s against what the patterns say.
func agrees(t *testing.T, s string) {
	t.Helper()
	want, also := parsed(s)
	if n, e := Parse(s); e != also || !same(n, want) {
		t.Fatalf("%.200q: %.200v %v, not %.200v %v", s, n, e, want, also)
	}
}

// 13.2

func TestParse(t *testing.T) {
	for s, want := range map[string]Node{
		"<a/>":                                Of("a", ""),
		"<a></a>":                             Of("a", ""),
		"<a >x</a >":                          Of("a", "x"),
		"<a\t\r\n/>":                          Of("a", ""),
		"<a>  </a>":                           Of("a", "  "),
		"<a> \t\r\n\r</a>":                    Of("a", " \t\n\n"),
		"<a>&#32;</a>":                        Of("a", " "),
		"<a> x y </a>":                        Of("a", " x y "),
		"<a>]]>\"'=/?-</a>":                   Of("a", "]]>\"'=/?-"),
		"<a>é€\U0001F600</a>":                 Of("a", "é€\U0001F600"),
		"<a>&lt;b/&gt;</a>":                   Of("a", "<b/>"),
		"<a>&amp;lt;</a>":                     Of("a", "&lt;"),
		"<a>a\r\nb\rc&#13;</a>":               Of("a", "a\nb\nc\r"),
		"<_a.b-c/>":                           Of("_a.b-c", ""),
		"<a.>x</a.>":                          Of("a.", "x"),
		"<xml/>":                              Of("xml", ""),
		" \t\r\n<a/>\n\r\t ":                  Of("a", ""),
		"<?xml?><a/>":                         Of("a", ""),
		"<?xml ?><a/>":                        Of("a", ""),
		"<?xml\t?><a/>":                       Of("a", ""),
		"<?xml\n?>\n<a/>\n":                   Of("a", ""),
		"<?xml\r?> <a/>":                      Of("a", ""),
		"<?xml??><a/>":                        Of("a", ""),
		"<?xml?x?><a/>":                       Of("a", ""),
		"<?xml ? > é <b/> ?><a/>":             Of("a", ""),
		"<?xml version=\"1.0\"?>\n<a/>":       Of("a", ""),
		"<a><b/></a>":                         {"a", "", []Node{Of("b", "")}},
		"<a> <b/>\n<b>x</b>\t</a>":            {"a", "", []Node{Of("b", ""), Of("b", "x")}},
		"<a><a><a>a</a></a><a/></a>":          {"a", "", []Node{{"a", "", []Node{Of("a", "a")}}, Of("a", "")}},
		"<a\n>\n<b\n>\n</b\n>\n</a\n>\n":      {"a", "", []Node{Of("b", "\n")}},
		"<a><b> </b> <c> <d/> </c></a>":       {"a", "", []Node{Of("b", " "), {"c", "", []Node{Of("d", "")}}}},
		"<a><ab/><a.b/></a>":                  {"a", "", []Node{Of("ab", ""), Of("a.b", "")}},
		"<a x=\"1\"> <b>1 &lt; 2</b><c/></a>": {"a", "", []Node{Of("b", "1 < 2"), Of("c", "")}},
		"<a x=\"1\" y:z = '\"'> <b>1 &lt; 2&#x41;&#66;&apos;\r\n</b><c/>\n</a>": {"a", "", []Node{Of("b", "1 < 2AB'\n"), Of("c", "")}},
	} {
		if n, e := Parse(s); !same(n, want) || e != api.OK {
			t.Errorf("%q: %v %v", s, n, e)
		}
		agrees(t, s)
	}
}

func TestParseOfAttributes(t *testing.T) {
	for _, a := range []string{
		"", " ", "\n\t\r ", ` x="1"`, ` x='1'`, ` x=""`, ` x=''`, ` x="'"`, ` x='"'`, ` x=">"`, ` x="/>"`, ` x = "1" `, "\tx\n=\r\"1\"\t", ` x="1" y="2"`, ` x="1"` + "\n" + `y='2' `, ` x="1" x="1"`, ` x:y="1"`, ` xmlns:xsi="http://a/b" xsi:type='c'`, ` _-.1:_.="é"`, ` x="` + "\r\n\t" + `"`, ` x="a=b;c:d"`, ` xmlns="http://s3.amazonaws.com/doc/2006-03-01/"`,
	} {
		for _, s := range []string{"<a" + a + "/>", "<a" + a + "></a>", "<b><a" + a + ">x</a></b>"} {
			if _, e := Parse(s); e != api.OK {
				t.Errorf("%q: %v", s, e)
			}
			agrees(t, s)
		}
	}
	for _, a := range []string{
		`x="1"`, ` x`, ` x=`, ` x="`, ` x='`, ` x="1`, ` x="1'`, ` x='1"`, ` x=1`, ` ="1"`, ` "1"`, ` =`, ` x="1"y="2"`, ` x="1"y`, ` x="<"`, ` x='<'`, ` x="&"`, ` x="&amp;"`, ` x='&lt;'`, ` x="1""`, ` :="1"`, ` x:="1"`, ` :y="1"`, ` x:y:z="1"`, ` x :y="1"`, ` x: y="1"`, ` x::y="1"`, ` 1="1"`, ` 1x="1"`, ` -x="1"`, ` .="1"`, ` x:1="1"`, ` x:-="1"`, ` x y="1"`, ` x==""`, ` x="1" y`, ` é="1"`, ` x="1",y="2"`, "\vx=\"1\"", "\u00A0x=\"1\"", ` /`, `/ `, ` x="1"/ `, ` <b/>`, ` x/="1"`, ` x=/"1"`, ` x=("1")`, " x=`1`",
	} {
		for _, s := range []string{"<a" + a + "/>", "<a" + a + "></a>", "<b><a" + a + ">x</a></b>"} {
			if n, e := Parse(s); !same(n, Node{}) || e != api.ErrXML {
				t.Errorf("%q: %v %v", s, n, e)
			}
			agrees(t, s)
		}
	}
}

func TestParseOfWrongOnes(t *testing.T) {
	for _, s := range []string{
		"", " ", "\n", "x", "a", "<", ">", "<>", "</>", "<a", "<a ", "<a/", "<a/ >", "<a / >", "<a>", "<a><", "<a></", "<a></a", "<a></a ", "</a>", "<a></ a>", "<a>< /a>", "< a/>", "< a></a>", "<a></b>", "<a></ab>", "<ab></a>", "<a></A>", "<a></a/>", "<a></a x=\"1\">", "<1/>", "<-/>", "<./>", "<é/>", "<a:b/>", "<a:b></a:b>", "<aé/>",
		"<a>x<b/></a>", "<a><b/>x</a>", "<a><b/>x<c/></a>", "<a>x<b/>y</a>", "<a>&#32;<b/></a>", "<a><b/>&#32;</a>", "<a><b/>\u00A0</a>", "<a>\v<b/></a>", "<a><b></a></b>", "<a><b></a>", "<a></b></a>", "<a><b></b>", "<a><b/>", "<a><b/> ",
		"<a/><b/>", "<a/><a/>", "<a></a><b></b>", "x<a/>", "<a/>x", "<a/>\x00", "<a/>\v", "\u00A0<a/>", "<a/>\u00A0", "\uFEFF<a/>", "<a/><", "<a/>>", "<a/></a>", "<a/>&#32;", "&#32;<a/>",
		"<!--x--><a/>", "<a/><!--x-->", "<a><!--x--></a>", "<!DOCTYPE a><a/>", "<!DOCTYPE a [<!ENTITY x 'y'>]><a>&x;</a>", "<a><![CDATA[x]]></a>", "<a><?x?></a>", "<?x?><a/>", "<a/><?x?>",
		"<?xml", "<?xml?>", "<?xml ?>", "<?xml ?> ", "<?xml?", "<?xml >", "<?xml ><a/>", "<?xml<a/>", "<?xml><a/>", "<?xmlx?><a/>", "<?xml-stylesheet ?><a/>", "<?xml\v?><a/>", "<?xml=\"1\"?><a/>", "<?XML ?><a/>", "<? xml ?><a/>", "<?Xml?><a/>", " <?xml?><a/>", "\n<?xml version=\"1.0\"?><a/>", "<?xml?><?xml?><a/>", "<a/><?xml?>", "<a><?xml?></a>", "<?xml ?>x<a/>", "<?xml ?><a/>?><a/>", "<?xml ? ><a/>", "<?xml \x01?><a/>", "<?xml \xff?><a/>",
		"<a>&x;</a>", "<a>&</a>", "<a>&amp</a>", "<a>&#0;</a>", "<a>&#xD800;</a>", "<a>&#12345678;</a>", "<a>x & y</a>", "<a><b>&</b></a>", "<a>&lt</a>", "&lt;a/>", "<a>&l<b/>t;</a>", "<a>&#1;</a>", "<a>&#xFFFF;</a>",
		"<a>\x00</a>", "<a>\x01</a>", "<a>\x0b</a>", "<a>\x1f</a>", "<a>\xff</a>", "<a>\xc0\x80</a>", "<a>\xed\xa0\x80</a>", "<a>\xf4\x90\x80\x80</a>", "<a>\uFFFE</a>", "<a>\uFFFF</a>", "<a>\xc3</a>", "<a x=\"\x01\"/>", "<a x=\"\xff\"/>",
	} {
		if n, e := Parse(s); !same(n, Node{}) || n.Kids != nil || e != api.ErrXML {
			t.Errorf("%q: %v %v", s, n, e)
		}
		agrees(t, s)
	}
}

func TestParseOfShortTexts(t *testing.T) {
	check := func(s string) { agrees(t, s) }
	texts([]string{"<", "/", ">", "a", " ", "b"}, 7, check)
	texts([]string{"<a", "<b", "</a", "</b", ">", "/>", " ", "x", "&lt;", "&"}, 5, check)
	texts([]string{"<a>", "<b>", "</a>", "</b>", "<c/>", "\n", "&#9;"}, 6, check)
	texts([]string{"<?xml", "?", ">", " ", "x", "<a/>", "é"}, 5, check)
	texts([]string{" ", "x", ":", "=", `"`, "'", "<", "&", ">"}, 5, func(s string) { agrees(t, "<a"+s+"/>") })
	texts([]string{"\n", "_", ":", "=", `"1"`, `'"'`, "/"}, 6, func(s string) { agrees(t, "<a "+s+"></a>") })
}

// sample is a document with all that may stand in one.
const sample = "<?xml version=\"1.0\" ?>\r\n<a-1 x = \"1>'\" y:_z='\"'\t>\n <b>1 &lt; 2&#x41;&#66;&apos;\r\né</b  ><c.d />\n<e><f></f> <a-1>\t</a-1></e></a-1 > \n"

func TestParseOfChangedBytes(t *testing.T) {
	agrees(t, sample)
	if _, e := Parse(sample); e != api.OK {
		t.Fatal(e)
	}
	for i := range len(sample) {
		agrees(t, sample[:i])
		agrees(t, sample[i:])
		agrees(t, sample[:i]+sample[i+1:])
		for c := range 256 {
			agrees(t, sample[:i]+string([]byte{byte(c)})+sample[i:])
			agrees(t, sample[:i]+string([]byte{byte(c)})+sample[i+1:])
		}
		for _, piece := range []string{"<x/>", "<x>y</x>", "</b>", "<b>", "&amp;", "&#13;", "<!--x-->", "<?xml?>", " x=''", "]]>", "\r\n"} {
			agrees(t, sample[:i]+piece+sample[i:])
		}
	}
	for i := range len(sample) {
		for j := i + 1; j < len(sample); j++ {
			agrees(t, sample[:i]+sample[j:])
		}
	}
}

func TestParseOfDepths(t *testing.T) {
	for deep := 1; deep <= 40; deep++ {
		for _, inner := range []string{"", "x", "<b/>", "<b></b>", "<b/><b/>", "<b><c/></b>"} {
			s := strings.Repeat("<a>", deep) + inner + strings.Repeat("</a>", deep)
			agrees(t, s)
			lies := deep + strings.Count(inner, "<b")/max(1, strings.Count(inner, "<b")) + strings.Count(inner, "<c")
			if _, e := Parse(s); (e == api.OK) != (lies <= 16) {
				t.Error(deep, inner, e)
			}
		}
	}
	// Depth is not how many elements there are, nor how many ended.
	wide := "<a>" + strings.Repeat(strings.Repeat("<a>", 15)+strings.Repeat("</a>", 15), 100) + "</a>"
	agrees(t, wide)
	if n, e := Parse(wide); e != api.OK || len(n.Kids) != 100 {
		t.Error(e)
	}
	if n, e := Parse(strings.Repeat("<a>", 5000) + strings.Repeat("</a>", 5000)); !same(n, Node{}) || e != api.ErrXML {
		t.Error(e)
	}
}

func TestParseOfLengths(t *testing.T) {
	for size := 65530; size <= 65540; size++ {
		want := api.OK
		if size > 65536 {
			want = api.ErrLong
		}
		room := strings.Repeat("x", size)
		for _, s := range []string{
			"<a>" + room[7:] + "</a>",
			"<a>" + strings.ReplaceAll(room[7:], "x", " ") + "</a>",
			"<" + room[3:] + "/>",
			"<a x='" + room[9:] + "'/>",
			"<a" + strings.Repeat(" ", size-4) + "/>",
			strings.Repeat("\n", size-4) + "<a/>",
			"<a/>" + strings.Repeat("\n", size-4),
			"<?xml " + room[12:] + "?><a/>",
			"<a>" + strings.Repeat("<b/>", (size-7)/4) + room[:(size-7)%4] + "</a>",
			"<a>" + strings.Repeat("é", (size-7)/2) + room[:(size-7)%2] + "</a>",
		} {
			agrees(t, s)
			if len(s) != size {
				t.Fatal(len(s), size)
			}
			_, e := Parse(s)
			if e != want && (e != api.ErrXML || !strings.Contains(s, "<b/>x")) {
				t.Errorf("%d %.10q: %v", size, s, e)
			}
		}
		if n, e := Parse(room); !same(n, Node{}) || e != map[bool]api.Errno{true: api.ErrXML, false: api.ErrLong}[size <= 65536] {
			t.Error(size, e)
		}
	}
	for _, c := range []string{"\xff", "\x00", "<", "&"} {
		if _, e := Parse(strings.Repeat(c, 65536)); e != api.ErrXML {
			t.Errorf("%q: %v", c, e)
		}
		if _, e := Parse(strings.Repeat(c, 65537)); e != api.ErrLong {
			t.Errorf("%q: %v", c, e)
		}
	}
}

// 13.5

func TestParseIsNewMemory(t *testing.T) {
	one, _ := Parse(sample)
	two, _ := Parse(sample)
	if !apart(one, two) {
		t.Error("shares memory")
	}
	want := fresh(two)
	spoil(one)
	if three, e := Parse(sample); !same(two, want) || !same(three, want) || e != api.OK {
		t.Error(two, three, e)
	}
}

func TestParseEnds(t *testing.T) {
	for _, piece := range []string{"<", "<a", "<a>", "<a ", "</", "</a>", "<a/>", "&", "&amp;", "&#", "<?xml", "<?xml ", "?>", "\"", "'", " ", " x", " x=", " x=\"", " x=\"1\"", "<a x='1' ", "<a>x", "<a> ", "<!", "\xff", "\x00", "é"} {
		for _, before := range []string{"", "<a>", "<a ", "<a x='", "<a><b/>", "<?xml ", "<a>&"} {
			s := before + strings.Repeat(piece, 65536/len(piece))
			s = s[:min(len(s), 65536)]
			ends(t, s[:20], func() {
				if n, e := Parse(s); !same(n, Node{}) || e != api.ErrXML {
					t.Errorf("%.20q: %v", s, e)
				}
			})
		}
	}
}
