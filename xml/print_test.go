package xml

import (
	standard "encoding/xml"
	"errors"
	"io"
	"strings"
	"testing"

	"stowage/api"
)

const (
	headLine = "<?xml version=\"1.0\" encoding=\"UTF-8\"?>\n"
	inSpace  = " xmlns=\"http://s3.amazonaws.com/doc/2006-03-01/\""
)

// written is the element n, byte for byte, as 13.3 says.
func written(n Node, attributes string) string {
	s := "<" + n.Name + attributes + ">" + Escape(n.Text)
	for _, kid := range n.Kids {
		s += written(kid, "")
	}
	return s + "</" + n.Name + ">"
}

// within tells n in so many elements.
func within(n Node, deep int) Node {
	for range deep {
		n = Node{"a", "", []Node{n}}
	}
	return n
}

// documents calls f with nodes that can be written, of each shape that has few elements and of many texts.
func documents(f func(n Node)) {
	for _, text := range []string{"", "x", " ", "\n", "\r", "\r\n", "\r\r\n", "\t", "&", "<", ">", "\"", "'", "&amp;", "&#13;", "]]>", "</a>", "<a/>", "é€\U0001F600", "\uD7FF\uE000\uFFFD\U0010FFFF", " x y ", "x&y<>\"'\r"} {
		for _, name := range []string{"a", "_", "Z-9._", "xml"} {
			f(Of(name, text))
			f(Node{name, "", []Node{Of("b", text)}})
			f(Node{name, "", []Node{Of("b", text), Of("b", text), Of(name, text)}})
			f(Node{name, "", []Node{{"c", "", []Node{Of(name, text)}}, Of("d", "x"), {"e", "", []Node{Of("f", ""), Of("g", text)}}}})
			f(within(Of(name, text), 15))
		}
	}
	var shapes func(left int) []Node
	shapes = func(left int) []Node {
		l := []Node{Of("s", ""), Of("t", "x&y")}
		if left > 0 {
			for _, one := range shapes(left - 1) {
				l = append(l, Node{"o", "", []Node{one}}, Node{"p", "", []Node{one, Of("q", " ")}}, Node{"r", "", []Node{Of("q", ""), one, one}})
			}
		}
		return l
	}
	for _, n := range shapes(5) {
		f(n)
	}
}

// 13.3

func TestPrint(t *testing.T) {
	for _, c := range []struct {
		n    Node
		want string
	}{
		{Of("a", "x&y"), "<a%>x&amp;y</a>"},
		{Of("a", ""), "<a%></a>"},
		{Of("a", "x&y<>\"'\r"), "<a%>x&amp;y&lt;&gt;&quot;'&#13;</a>"},
		{Of("a", " \t\n"), "<a%> \t\n</a>"},
		{Node{"a", "", []Node{}}, "<a%></a>"},
		{Node{"a", "x", []Node{}}, "<a%>x</a>"},
		{Node{"a", "", []Node{Of("b", ""), Of("b", "\r\n é")}}, "<a%><b></b><b>&#13;\n é</b></a>"},
		{Node{"a", "", []Node{{"a", "", []Node{Of("a", "1")}}, Of("c", "2")}}, "<a%><a><a>1</a></a><c>2</c></a>"},
		{within(Of("a", ""), 15), "<a%>" + strings.Repeat("<a>", 15) + strings.Repeat("</a>", 16)},
	} {
		for _, space := range []bool{false, true} {
			attributes := map[bool]string{true: inSpace}[space]
			want := headLine + strings.Replace(c.want, "%", attributes, 1)
			if s, e := Print(c.n, space); s != want || e != api.OK {
				t.Errorf("%v: %q %v", c.n, s, e)
			}
		}
	}
	documents(func(n Node) {
		if s, e := Print(n, false); s != headLine+written(n, "") || e != api.OK {
			t.Fatalf("%v: %q %v", n, s, e)
		}
		if s, e := Print(n, true); s != headLine+written(n, inSpace) || e != api.OK {
			t.Fatalf("%v: %q %v", n, s, e)
		}
	})
}

// wrongNodes are nodes of which each has one thing that is wrong.
func wrongNodes() []Node {
	l := []Node{{}, {"", "", []Node{Of("a", "")}}, {"a", "x", []Node{Of("b", "")}}, {"a", " ", []Node{Of("b", "")}}, {"a", "x", []Node{{"b", "", []Node{Of("c", "")}}}}}
	for _, name := range []string{"", "1", "-a", ".a", "a b", "a:b", "é", "a>", "a\n", "a\xff", "a/", "a x=\"1\""} {
		l = append(l, Of(name, ""), Of(name, "x"))
	}
	for _, text := range []string{"\x00", "\x01", "\x0b", "\x1f", "\xff", "x\xc3", "\xc0\x80", "\xed\xa0\x80", "\xf4\x90\x80\x80", "\uFFFE", "x\uFFFFy"} {
		l = append(l, Of("a", text))
	}
	return l
}

func TestPrintOfWrongOnes(t *testing.T) {
	refused := func(n Node) {
		for _, space := range []bool{false, true} {
			if s, e := Print(n, space); s != "" || e != api.ErrXML {
				t.Errorf("%v: %q %v", n, s, e)
			}
		}
	}
	for _, wrong := range wrongNodes() {
		refused(wrong)
		for deep := 1; deep <= 15; deep++ {
			refused(within(wrong, deep))
		}
		refused(Node{"a", "", []Node{Of("b", ""), wrong}})
		refused(Node{"a", "", []Node{wrong, Of("b", "")}})
		refused(Node{"a", "", []Node{Of("b", ""), {"c", "", []Node{Of("b", "x"), wrong, Of("b", "")}}, Of("b", "")}})
	}
}

func TestPrintOfDepths(t *testing.T) {
	for deep := range 60 {
		want := api.OK
		if deep > 15 {
			want = api.ErrXML
		}
		for _, n := range []Node{Of("b", ""), Of("b", "x"), {"b", "", []Node{}}} {
			if s, e := Print(within(n, deep), false); e != want || (s == "") != (e != api.OK) {
				t.Error(deep, e)
			}
		}
		if _, e := Print(Node{"a", "", []Node{Of("b", ""), within(Of("b", ""), max(0, deep-1)), Of("b", "")}}, true); deep > 0 && e != want {
			t.Error(deep, e)
		}
	}
}

func TestPrintOfLengths(t *testing.T) {
	for _, space := range []bool{false, true} {
		around := len(headLine) + len("<a></a>")
		if space {
			around += len(inSpace)
		}
		for size := 65530; size <= 65542; size++ {
			room := size - around
			for _, n := range []Node{
				Of("a", strings.Repeat("x", room)),
				Of("a", strings.Repeat("&", room/5)+strings.Repeat("x", room%5)),
				Of("a", strings.Repeat("\r", room/5)+strings.Repeat(" ", room%5)),
				Of("a", strings.Repeat("€", room/3)+strings.Repeat("x", room%3)),
				{"a", "", append(many("b", room/7-1), Of("b", strings.Repeat("y", room%7)))},
				{"a", "", append([]Node{Of("b", strings.Repeat("y", room%7))}, many("b", room/7-1)...)},
			} {
				s, e := Print(n, space)
				if want := size <= 65536; want != (e == api.OK) || !want && (s != "" || e != api.ErrLong) || want && len(s) != size {
					t.Error(space, size, len(s), e)
				}
			}
		}
	}
	if s, e := Print(Of(strings.Repeat("a", 40000), ""), false); s != "" || e != api.ErrLong {
		t.Error(e)
	}
}

// many tells n empty elements.
func many(name string, n int) []Node {
	var l []Node
	for range n {
		l = append(l, Of(name, ""))
	}
	return l
}

// What is wrong is told ahead of what is too long, wherever it stands.
func TestPrintOfWrongAndLongOnes(t *testing.T) {
	long := Of("a", strings.Repeat("&", 20000))
	for _, wrong := range append(wrongNodes(), within(Of("a", ""), 15)) {
		for _, n := range []Node{
			{"a", "", []Node{long, wrong}},
			{"a", "", []Node{wrong, long}},
			{"a", "", append(many("b", 20000), wrong)},
			{"a", "", []Node{{"b", "", many("b", 20000)}, {"b", "", []Node{wrong}}}},
		} {
			if s, e := Print(n, false); s != "" || e != api.ErrXML {
				t.Errorf("%v: %.20q %v", wrong, s, e)
			}
		}
	}
	if s, e := Print(Of("a", strings.Repeat("x", 70000)+"\x01"), false); s != "" || e != api.ErrXML {
		t.Error(e)
	}
	if s, e := Print(Of(strings.Repeat("a", 70000)+" ", ""), false); s != "" || e != api.ErrXML {
		t.Error(e)
	}
	if s, e := Print(Node{"a", "", []Node{long, long}}, false); s != "" || e != api.ErrLong {
		t.Error(e)
	}
}

// 13.4

func TestParseOfPrint(t *testing.T) {
	documents(func(n Node) {
		for _, space := range []bool{false, true} {
			s, e := Print(n, space)
			if e != api.OK {
				t.Fatalf("%v: %v", n, e)
			}
			if m, e := Parse(s); !same(m, n) || e != api.OK {
				t.Fatalf("%v: %v %v", n, m, e)
			}
		}
	})
	pieces := []string{"a", " ", "\t", "\n", "\r", "&", "<", ">", "\"", "'", ";", "#", "é", "\uFFFD", "\U0001F600"}
	texts(pieces, 4, func(text string) {
		n := Node{"a", "", []Node{Of("b", text)}}
		s, e := Print(n, true)
		if m, also := Parse(s); !same(m, n) || e != api.OK || also != api.OK {
			t.Fatalf("%q: %v %v %v", text, m, e, also)
		}
	})
}

func TestPrintOfParse(t *testing.T) {
	check := func(s string) {
		n, e := Parse(s)
		if e != api.OK {
			return
		}
		for _, space := range []bool{false, true} {
			p, e := Print(n, space)
			if e != api.OK {
				t.Fatalf("%q: %v %v", s, n, e)
			}
			if m, e := Parse(p); !same(m, n) || e != api.OK {
				t.Fatalf("%q: %v %v", s, m, e)
			}
		}
	}
	check(sample)
	for i := range len(sample) {
		for c := range 256 {
			check(sample[:i] + string([]byte{byte(c)}) + sample[i:])
			check(sample[:i] + string([]byte{byte(c)}) + sample[i+1:])
		}
	}
	texts([]string{"<a>", "</a>", "<b/>", " ", "&#13;", "\r", "x"}, 6, check)
	for _, s := range []string{
		"<a>" + strings.Repeat("\"", 65529) + "</a>",
		"<a>" + strings.Repeat("<b/>", 16382) + "</a>",
		strings.Repeat(" ", 65532) + "<a/>",
		"<" + strings.Repeat("a", 65533) + "/>",
	} {
		n, e := Parse(s)
		if e != api.OK {
			t.Fatalf("%.10q: %v", s, e)
		}
		if p, e := Print(n, false); e != api.OK && (p != "" || e != api.ErrLong) {
			t.Errorf("%.10q: %v", s, e)
		}
	}
}

// read tells the element that the library's reader finds in s.
func read(s string) (Node, error) {
	d := standard.NewDecoder(strings.NewReader(s))
	stack := []Node{{}}
	for {
		tok, err := d.Token()
		if errors.Is(err, io.EOF) {
			return stack[0].Kids[0], nil
		}
		if err != nil {
			return Node{}, err
		}
		top := len(stack) - 1
		switch v := tok.(type) {
		case standard.StartElement:
			stack = append(stack, Of(v.Name.Local, ""))
		case standard.CharData:
			stack[top].Text += string(v)
		case standard.EndElement:
			stack[top-1].Kids = append(stack[top-1].Kids, stack[top])
			stack = stack[:top]
		}
	}
}

func TestTheLibraryReadsWhatPrintWrites(t *testing.T) {
	documents(func(n Node) {
		for _, space := range []bool{false, true} {
			s, _ := Print(n, space)
			if m, err := read(s); !same(m, n) || err != nil {
				t.Fatalf("%v: %v %v", n, m, err)
			}
		}
	})
}

// 13.5

func TestPrintLeavesNodesAlone(t *testing.T) {
	list := make([]Node, 2, 5)
	list[0], list[1] = Of("b", "1"), Node{"c", "", []Node{Of("d", "2")}}
	n := Node{"a", "", list}
	before := fresh(n)
	for range 2 {
		if _, e := Print(n, true); e != api.OK || !same(n, before) {
			t.Error(n, e)
		}
	}
	for _, spare := range list[:5][2:] {
		if !same(spare, Node{}) {
			t.Error("spare room", spare)
		}
	}
}

func TestPrintEnds(t *testing.T) {
	for i, n := range rings() {
		ends(t, "Print of a ring", func() {
			if s, e := Print(n, false); s != "" || e != api.ErrXML {
				t.Error(i, len(s), e)
			}
		})
	}
	ends(t, "Print of more than can be counted", func() {
		if s, e := Print(levels(1000, 15, Of("a", "")), false); s != "" || e != api.ErrLong {
			t.Error(len(s), e)
		}
		if s, e := Print(levels(1000, 16, Of("a", "")), false); s != "" || e != api.ErrXML {
			t.Error(len(s), e)
		}
		if s, e := Print(levels(1000, 15, Of("a", "\x01")), false); s != "" || e != api.ErrXML {
			t.Error(len(s), e)
		}
	})
	ends(t, "Print of a deep one", func() {
		if s, e := Print(within(Of("a", ""), 1000000), false); s != "" || e != api.ErrXML {
			t.Error(len(s), e)
		}
	})
}

// The lists of two nodes that begin at one place are two lists, if one of them has more nodes.
func TestListsThatBeginAtOnePlace(t *testing.T) {
	list := []Node{Of("b", "1"), Of("c d", "2")}
	if s, e := Print(Node{"a", "", []Node{{"x", "", list[:1]}, {"y", "", list}}}, false); s != "" || e != api.ErrXML {
		t.Errorf("%q %v", s, e)
	}
	big := Node{"x", "", many("y", 70000)}
	big.Kids[0].Kids, big.Kids[1].Kids = list[:1], list
	if k, ok := Kid(Node{"a", "", []Node{big}}, "x"); !ok || !same(k, big) {
		t.Error(ok)
	}
}

// The examples of the chapter.

func TestExamples(t *testing.T) {
	want := Node{"a", "", []Node{Of("b", "1 < 2"), Of("c", "")}}
	if n, e := Parse(`<a x="1"> <b>1 &lt; 2</b><c/></a>`); !same(n, want) || e != api.OK {
		t.Error(n, e)
	}
	for _, s := range []string{"<a>x<b/></a>", "<a><b></a></b>", "<!--x--><a/>"} {
		if n, e := Parse(s); !same(n, Node{}) || e != api.ErrXML {
			t.Error(s, n, e)
		}
	}
	if s, e := Print(Of("a", "x&y"), false); s != headLine+"<a>x&amp;y</a>" || e != api.OK {
		t.Error(s, e)
	}
}
