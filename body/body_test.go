package body

import (
	"iter"
	"regexp"
	"slices"
	"strconv"
	"strings"
	"testing"
	"time"
	"unicode/utf8"

	"stowage/api"
	"stowage/xml"
)

// The outermost elements of the documents that are read.
const (
	ofVersioning = "VersioningConfiguration"
	ofDelete     = "Delete"
	ofComplete   = "CompleteMultipartUpload"
	ofTags       = "Tagging"
	ofCors       = "CORSConfiguration"
)

var outermost = []string{ofVersioning, ofDelete, ofComplete, ofTags, ofCors}

// answer is what one of the five calls told; the fields of the other four are zero.
type answer struct {
	state int
	quiet bool
	names []api.Named
	parts []api.PartRef
	tags  []api.Tag
	rules []api.Rule
	e     api.Errno
}

func sameRule(a, b api.Rule) bool {
	return slices.Equal(a.Origins, b.Origins) && slices.Equal(a.Methods, b.Methods) && slices.Equal(a.Allow, b.Allow) && slices.Equal(a.Expose, b.Expose) && a.Age == b.Age
}

func sameAnswer(a, b answer) bool {
	return a.state == b.state && a.quiet == b.quiet && a.e == b.e && slices.Equal(a.names, b.names) && slices.Equal(a.parts, b.parts) && slices.Equal(a.tags, b.tags) && slices.EqualFunc(a.rules, b.rules, sameRule)
}

// ask asks the call whose documents have that outermost element.
func ask(outer, s string) (a answer) {
	switch outer {
	case ofVersioning:
		a.state, a.e = Versioning(s)
	case ofDelete:
		a.quiet, a.names, a.e = Delete(s)
	case ofComplete:
		a.parts, a.e = Complete(s)
	case ofTags:
		a.tags, a.e = Tags(s)
	case ofCors:
		a.rules, a.e = Cors(s)
	}
	return a
}

// often is how often a kid may come.
type often struct{ least, most int }

const endless = 1 << 30

// shapes is the table of 15.1: the kids of each element that has kids told.
var shapes = map[string]map[string]often{
	ofVersioning: {"Status": {0, 1}},
	ofDelete:     {"Quiet": {0, 1}, "Object": {1, 1000}},
	"Object":     {"Key": {1, 1}, "VersionId": {0, 1}},
	ofComplete:   {"Part": {1, 10000}},
	"Part":       {"PartNumber": {1, 1}, "ETag": {1, 1}},
	ofTags:       {"TagSet": {1, 1}},
	"TagSet":     {"Tag": {0, endless}},
	"Tag":        {"Key": {1, 1}, "Value": {1, 1}},
	ofCors:       {"CORSRule": {1, 100}},
	"CORSRule":   {"AllowedOrigin": {1, endless}, "AllowedMethod": {1, endless}, "AllowedHeader": {0, endless}, "ExposeHeader": {0, endless}, "MaxAgeSeconds": {0, 1}, "ID": {0, 1}},
}

var (
	onlyWhite = regexp.MustCompile(`\A[ \t\n\r]*\z`)
	decimal   = regexp.MustCompile(`\A(0|[1-9][0-9]{0,17})\z`)

	// forms are those of the texts that may not be anything.
	forms = map[string][]*regexp.Regexp{
		"Status":        {regexp.MustCompile(`\A(Enabled|Suspended)\z`)},
		"Quiet":         {regexp.MustCompile(`\A(true|false)\z`)},
		"PartNumber":    {decimal},
		"MaxAgeSeconds": {decimal},
		"AllowedMethod": {regexp.MustCompile(`\A(GET|PUT|POST|DELETE|HEAD)\z`)},
		"AllowedOrigin": {regexp.MustCompile(`(?s)\A[^*]*\*?[^*]*\z`)},
		"AllowedHeader": {regexp.MustCompile(`\A[^*]*\*?[^*]*\z`), tokenForm},
		"ExposeHeader":  {tokenForm},
	}
	tokenForm = regexp.MustCompile("\\A[A-Za-z0-9!#$%&'*+.^_`|~-]+\\z")
)

// asTold tells whether an element is as 15.1 says.
func asTold(n xml.Node) bool {
	kids, has := shapes[n.Name]
	if !has {
		return len(n.Kids) == 0 && !slices.ContainsFunc(forms[n.Name], func(f *regexp.Regexp) bool { return !f.MatchString(n.Text) })
	}
	left := 0
	for name, o := range kids {
		c := len(named(n, name))
		if c < o.least || c > o.most {
			return false
		}
		left += c
	}
	return left == len(n.Kids) && onlyWhite.MatchString(n.Text) && !slices.ContainsFunc(n.Kids, func(k xml.Node) bool { return !asTold(k) })
}

// named tells the kids of that name.
func named(n xml.Node, name string) []xml.Node {
	var l []xml.Node
	for _, k := range n.Kids {
		if k.Name == name {
			l = append(l, k)
		}
	}
	return l
}

// says tells the texts of the kids of that name.
func says(n xml.Node, name string) []string {
	var l []string
	for _, k := range named(n, name) {
		l = append(l, k.Text)
	}
	return l
}

// saysOnce tells the text of the kid of that name; of none the empty one.
func saysOnce(n xml.Node, name string) string {
	return strings.Join(says(n, name), "")
}

func decimalOf(s string) int {
	n, _ := strconv.Atoi(s)
	return n
}

// model is what 15.1 says of the call.
func model(outer, s string) answer {
	n, e := xml.Parse(s)
	if e != api.OK {
		return answer{e: 326}
	}
	return modelOf(outer, n)
}

// modelOf is that of a document that holds n.
func modelOf(outer string, n xml.Node) answer {
	if n.Name != outer || !asTold(n) {
		return answer{e: 326}
	}
	var a answer
	switch outer {
	case ofVersioning:
		a.state = map[string]int{"Enabled": 1, "Suspended": 2}[saysOnce(n, "Status")]
	case ofDelete:
		a.quiet = saysOnce(n, "Quiet") == "true"
		for _, k := range named(n, "Object") {
			a.names = append(a.names, api.Named{Key: saysOnce(k, "Key"), Version: saysOnce(k, "VersionId")})
		}
	case ofComplete:
		for _, k := range n.Kids {
			etag := regexp.MustCompile(`(?s)\A"(.*)"\z`).ReplaceAllString(saysOnce(k, "ETag"), "$1")
			a.parts = append(a.parts, api.PartRef{Number: decimalOf(saysOnce(k, "PartNumber")), ETag: etag})
		}
	case ofTags:
		keys := map[string]bool{}
		for _, k := range n.Kids[0].Kids {
			tag := api.Tag{Key: saysOnce(k, "Key"), Value: saysOnce(k, "Value")}
			if tag.Key == "" || keys[tag.Key] || len(keys) == 10 || utf8.RuneCountInString(tag.Key) > 128 || utf8.RuneCountInString(tag.Value) > 256 {
				return answer{e: 333}
			}
			keys[tag.Key] = true
			a.tags = append(a.tags, tag)
		}
	case ofCors:
		for _, k := range n.Kids {
			a.rules = append(a.rules, api.Rule{Origins: says(k, "AllowedOrigin"), Methods: says(k, "AllowedMethod"), Allow: says(k, "AllowedHeader"), Expose: says(k, "ExposeHeader"), Age: decimalOf(saysOnce(k, "MaxAgeSeconds"))})
		}
	}
	return a
}

// agrees holds all five calls of s against the model, and tells how many of them took it.
func agrees(t *testing.T, s string) int {
	t.Helper()
	took := 0
	n, e := xml.Parse(s)
	for _, outer := range outermost {
		a, want := ask(outer, s), answer{e: 326}
		if e == api.OK {
			want = modelOf(outer, n)
		}
		if !sameAnswer(a, want) {
			t.Fatalf("%s %.300q: %v, not %v", outer, s, a, want)
		}
		if a.e == api.OK {
			took++
		}
	}
	return took
}

// el writes an element that holds what is written in it.
func el(name string, inner ...string) string {
	return "<" + name + ">" + strings.Join(inner, "") + "</" + name + ">"
}

// samples are documents that are read well, with each kid that may come.
func samples() []string {
	const rule = "<AllowedOrigin>http://*.a</AllowedOrigin><AllowedOrigin>b</AllowedOrigin><AllowedMethod>GET</AllowedMethod><AllowedMethod>HEAD</AllowedMethod><AllowedHeader>x-*</AllowedHeader><ExposeHeader>e</ExposeHeader><MaxAgeSeconds>5</MaxAgeSeconds><ID>i</ID>"
	return []string{
		"<VersioningConfiguration><Status>Enabled</Status></VersioningConfiguration>",
		"<VersioningConfiguration><Status>Suspended</Status></VersioningConfiguration>",
		"<VersioningConfiguration/>",
		"<Delete><Object><Key>a</Key></Object></Delete>",
		"<Delete><Quiet>false</Quiet><Object><Key>a</Key><VersionId>v</VersionId></Object></Delete>",
		"<Delete><Quiet>true</Quiet><Object><Key>a</Key><VersionId>v</VersionId></Object><Object><Key>b</Key></Object></Delete>",
		"<CompleteMultipartUpload><Part><PartNumber>1</PartNumber><ETag>\"x\"</ETag></Part></CompleteMultipartUpload>",
		"<CompleteMultipartUpload><Part><PartNumber>10000</PartNumber><ETag>x</ETag></Part><Part><PartNumber>2</PartNumber><ETag/></Part></CompleteMultipartUpload>",
		"<Tagging><TagSet/></Tagging>",
		"<Tagging><TagSet><Tag><Key>a</Key><Value>1</Value></Tag><Tag><Key>b</Key><Value/></Tag></TagSet></Tagging>",
		"<CORSConfiguration><CORSRule><AllowedOrigin>*</AllowedOrigin><AllowedMethod>PUT</AllowedMethod></CORSRule></CORSConfiguration>",
		"<CORSConfiguration><CORSRule>" + rule + "</CORSRule><CORSRule><AllowedOrigin>c</AllowedOrigin><AllowedMethod>POST</AllowedMethod></CORSRule></CORSConfiguration>",
	}
}

// parsed tells the element of a sample.
func parsed(t *testing.T, s string) xml.Node {
	n, e := xml.Parse(s)
	if e != api.OK {
		t.Fatal(s, e)
	}
	return n
}

// written writes an element, whether a document may hold it or not.
func written(n xml.Node) string {
	s := "<" + n.Name + ">" + xml.Escape(n.Text)
	for _, k := range n.Kids {
		s += written(k)
	}
	return s + "</" + n.Name + ">"
}

// allNames are those of all elements that are told, and of some that are not.
func allNames() []string {
	l := []string{"X", "key", "status", "Contents"}
	for outer, kids := range shapes {
		l = append(l, outer)
		for name := range kids {
			l = append(l, name)
		}
	}
	slices.Sort(l)
	return slices.Compact(l)
}

// with tells n with other kids.
func with(n xml.Node, kids ...[]xml.Node) xml.Node {
	return xml.Node{Name: n.Name, Text: n.Text, Kids: slices.Concat(kids...)}
}

// changed tells what n becomes by one change, at it or at an element within it.
func changed(n xml.Node) iter.Seq[xml.Node] {
	return func(yield func(xml.Node) bool) {
		for _, text := range []string{"", " ", "\t\n\r ", "x", "0", "7", "07", "-1", "true", "Enabled", "GET", "*", "a*b", "**", "*a*", "a b", "\"", "\"\"", "\"x\"", "\"x", "\u00A0", "\v x"} {
			if !yield(xml.Node{Name: n.Name, Text: text, Kids: n.Kids}) {
				return
			}
		}
		for _, name := range allNames() {
			if !yield(xml.Node{Name: name, Text: n.Text, Kids: n.Kids}) {
				return
			}
			for i := range len(n.Kids) + 1 {
				if !yield(with(n, n.Kids[:i], []xml.Node{xml.Of(name, "")}, n.Kids[i:])) || !yield(with(n, n.Kids[:i], []xml.Node{xml.Of(name, "1")}, n.Kids[i:])) {
					return
				}
			}
		}
		for i, k := range n.Kids {
			if !yield(with(n, n.Kids[:i], n.Kids[i+1:])) || !yield(with(n, n.Kids, n.Kids[i:i+1])) || !yield(with(n, n.Kids[:i], k.Kids, n.Kids[i+1:])) {
				return
			}
			for j := range i {
				swapped := with(n, n.Kids)
				swapped.Kids[i], swapped.Kids[j] = swapped.Kids[j], swapped.Kids[i]
				if !yield(swapped) {
					return
				}
			}
			for other := range changed(k) {
				if !yield(with(n, n.Kids[:i], []xml.Node{other}, n.Kids[i+1:])) {
					return
				}
			}
		}
	}
}

// 15.1

func TestSamples(t *testing.T) {
	for _, s := range samples() {
		if agrees(t, s) != 1 {
			t.Error(s)
		}
	}
}

func TestExamples(t *testing.T) {
	if n, e := Versioning("<VersioningConfiguration><Status>Enabled</Status></VersioningConfiguration>"); n != 1 || e != api.OK {
		t.Error(n, e)
	}
	if l, e := Tags(tagging(tags(11)...)); len(l) != 0 || e != api.ErrInvalidTag {
		t.Error(l, e)
	}
	if l, e := Tags(tagging(tag("a", "1"), tag("a", "2"))); len(l) != 0 || e != api.ErrInvalidTag {
		t.Error(l, e)
	}
	if q, l, e := Delete("<Delete></Delete>"); q || len(l) != 0 || e != api.ErrMalformedXML {
		t.Error(q, l, e)
	}
}

func TestWholeAnswers(t *testing.T) {
	for s, want := range map[string]answer{
		"<VersioningConfiguration> \n</VersioningConfiguration>":                                                                                                            {},
		"<VersioningConfiguration xmlns=\"x\">\n <Status>Suspended</Status >\r\n</VersioningConfiguration>":                                                                 {state: 2},
		"<VersioningConfiguration><Status> Enabled</Status></VersioningConfiguration>":                                                                                      {e: 326},
		"<VersioningConfiguration><Status/></VersioningConfiguration>":                                                                                                      {e: 326},
		"<VersioningConfiguration><MfaDelete>Disabled</MfaDelete></VersioningConfiguration>":                                                                                {e: 326},
		"<Delete><Object><Key>b</Key></Object><Quiet>true</Quiet><Object><VersionId>null</VersionId><Key> a&amp;\r\n</Key></Object></Delete>":                               {quiet: true, names: []api.Named{{Key: "b"}, {Key: " a&\n", Version: "null"}}},
		"<Delete><Object><Key/><VersionId/></Object><Object><Key/></Object></Delete>":                                                                                       {names: []api.Named{{}, {}}},
		"<Delete><Quiet>true</Quiet></Delete>":                                                                                                                              {e: 326},
		"<Delete><Quiet>true</Quiet><Quiet>true</Quiet><Object><Key>a</Key></Object></Delete>":                                                                              {e: 326},
		"<Delete><Quiet>True</Quiet><Object><Key>a</Key></Object></Delete>":                                                                                                 {e: 326},
		"<Delete><Quiet/><Object><Key>a</Key></Object></Delete>":                                                                                                            {e: 326},
		"<Delete><Object><Key>a</Key></Object><Object><VersionId>v</VersionId></Object></Delete>":                                                                           {e: 326},
		"<CompleteMultipartUpload><Part><ETag>b</ETag><PartNumber>2</PartNumber></Part><Part><PartNumber>1</PartNumber><ETag>\"a\"</ETag></Part></CompleteMultipartUpload>": {parts: []api.PartRef{{Number: 2, ETag: "b"}, {Number: 1, ETag: "a"}}},
		"<Tagging> <TagSet> </TagSet> </Tagging>":                                                                                                                           {},
		"<Tagging><TagSet><Tag><Value> </Value><Key> </Key></Tag></TagSet></Tagging>":                                                                                       {tags: []api.Tag{{Key: " ", Value: " "}}},
		"<Tagging><TagSet/><TagSet/></Tagging>":                                                                                                                             {e: 326},
		"<Tagging><Tag><Key>a</Key><Value/></Tag></Tagging>":                                                                                                                {e: 326},
		"<CORSConfiguration><CORSRule><ID/><MaxAgeSeconds>0</MaxAgeSeconds><ExposeHeader>E*x*</ExposeHeader><AllowedHeader>*</AllowedHeader><AllowedMethod>DELETE</AllowedMethod><AllowedOrigin/></CORSRule></CORSConfiguration>": {rules: []api.Rule{{Origins: []string{""}, Methods: []string{"DELETE"}, Allow: []string{"*"}, Expose: []string{"E*x*"}}}},
	} {
		outer := s[1:strings.IndexAny(s, " >")]
		if a := ask(outer, s); !sameAnswer(a, want) {
			t.Errorf("%s: %v", s, a)
		}
		agrees(t, s)
	}
}

// Each sample with each change at each of its elements; of the small ones each two changes.
func TestChangedDocuments(t *testing.T) {
	took := 0
	for _, s := range samples() {
		n := parsed(t, s)
		for one := range changed(n) {
			took += agrees(t, written(one))
			if len(s) > 46 {
				continue
			}
			for two := range changed(one) {
				took += agrees(t, written(two))
			}
		}
	}
	if took < 1000 {
		t.Error("few of the documents are read", took)
	}
}

// orders tells l in every order.
func orders(l []string) [][]string {
	if len(l) == 0 {
		return [][]string{nil}
	}
	var all [][]string
	for i := range l {
		for _, rest := range orders(slices.Concat(l[:i], l[i+1:])) {
			all = append(all, append([]string{l[i]}, rest...))
		}
	}
	return all
}

func TestKidsInEveryOrder(t *testing.T) {
	a, b := el("Object", el("Key", "a"), el("VersionId", "v")), el("Object", el("VersionId", "w"), el("Key", "b"))
	for _, l := range orders([]string{a, b, el("Quiet", "true")}) {
		want := []api.Named{{Key: "a", Version: "v"}, {Key: "b", Version: "w"}}
		if slices.Index(l, b) < slices.Index(l, a) {
			slices.Reverse(want)
		}
		if q, names, e := Delete(el(ofDelete, l...)); !q || e != api.OK || !slices.Equal(names, want) {
			t.Error(l, q, names, e)
		}
	}
	for _, l := range orders([]string{el("PartNumber", "3"), el("ETag", "e")}) {
		if parts, e := Complete(el(ofComplete, el("Part", l...))); e != api.OK || !slices.Equal(parts, []api.PartRef{{Number: 3, ETag: "e"}}) {
			t.Error(l, parts, e)
		}
	}
	for _, l := range orders([]string{el("Key", "k"), el("Value", "v")}) {
		if tags, e := Tags(tagging(el("Tag", l...))); e != api.OK || !slices.Equal(tags, []api.Tag{{Key: "k", Value: "v"}}) {
			t.Error(l, tags, e)
		}
	}
	rule := []string{el("AllowedOrigin", "o"), el("AllowedMethod", "GET"), el("AllowedHeader", "a"), el("ExposeHeader", "e"), el("MaxAgeSeconds", "9"), el("ID", "i"), el("AllowedHeader", "b")}
	for _, l := range orders(rule) {
		want := api.Rule{Origins: []string{"o"}, Methods: []string{"GET"}, Allow: []string{"a", "b"}, Expose: []string{"e"}, Age: 9}
		if slices.Index(l, rule[6]) < slices.Index(l, rule[2]) {
			slices.Reverse(want.Allow)
		}
		if rules, e := Cors(el(ofCors, el("CORSRule", l...))); e != api.OK || len(rules) != 1 || !sameRule(rules[0], want) {
			t.Fatal(l, rules, e)
		}
	}
}

// Each kid left out, twice, or with something within it.
func TestEachKid(t *testing.T) {
	for _, c := range []struct {
		before, after string
		kids          []string
	}{
		{"<VersioningConfiguration>", "</VersioningConfiguration>", []string{"Status? Enabled"}},
		{"<Delete>", "<Object><Key/></Object></Delete>", []string{"Quiet? true"}},
		{"<Delete><Object>", "</Object></Delete>", []string{"Key! k", "VersionId? v"}},
		{"<CompleteMultipartUpload><Part>", "</Part></CompleteMultipartUpload>", []string{"PartNumber! 1", "ETag! e"}},
		{"<Tagging><TagSet><Tag>", "</Tag></TagSet></Tagging>", []string{"Key! k", "Value! v"}},
		{"<CORSConfiguration><CORSRule>", "</CORSRule></CORSConfiguration>", []string{"AllowedOrigin+ o", "AllowedMethod+ GET", "AllowedHeader* h", "ExposeHeader* h", "MaxAgeSeconds? 1", "ID? i"}},
	} {
		outer := c.before[1:strings.Index(c.before, ">")]
		for i, spec := range c.kids {
			var other string
			for j, k := range c.kids {
				if j != i {
					name, text, _ := strings.Cut(k, " ")
					other += el(strings.TrimRight(name, "!?+*"), text)
				}
			}
			sign, text, _ := strings.Cut(spec, " ")
			name := strings.TrimRight(sign, "!?+*")
			try := func(inner string, ok bool) {
				t.Helper()
				for _, s := range []string{c.before + inner + other + c.after, c.before + other + inner + c.after} {
					if a := ask(outer, s); (a.e == api.OK) != ok || a.e != api.OK && !sameAnswer(a, answer{e: 326}) {
						t.Errorf("%s: %v", s, a)
					}
					agrees(t, s)
				}
			}
			try(el(name, text), true)
			try("", strings.ContainsAny(sign, "?*"))
			try(el(name, text)+el(name, text), strings.ContainsAny(sign, "+*"))
			try(el(name, text)+" \r\n\t"+el("Unknown"), false)
			try(el(name, text)+"x", false)
			try(el(name, text)+"&#32;", false)
			try(el(name, el("a")), false)
			try(el(name, " ", el(name, text), " "), false)
			try(el(strings.ToLower(name), text), false)
		}
	}
}

// Of an element with kids told all white is as good as no text, also where it is escaped.
func TestWhite(t *testing.T) {
	for text, ok := range map[string]bool{"": true, " ": true, "\t": true, "\n": true, "\r": true, " \t\r\n ": true, "&#32;": true, "&#9;&#xA;&#13;": true, "x": false, " x ": false, "\u00A0": false, "&#160;": false, "\u0085": false, "\u2003": false, "&#x3000;": false, "0": false, "&amp;": false} {
		for s, without := range map[string]api.Errno{
			el(ofVersioning, text):                    api.OK,
			el(ofTags, el("TagSet", text)):            api.OK,
			el(ofTags, text):                          api.ErrMalformedXML,
			el(ofDelete, text):                        api.ErrMalformedXML,
			el(ofDelete, el("Object", text)):          api.ErrMalformedXML,
			el(ofComplete, text):                      api.ErrMalformedXML,
			el(ofComplete, el("Part", text)):          api.ErrMalformedXML,
			el(ofTags, el("TagSet", el("Tag", text))): api.ErrMalformedXML,
			el(ofCors, text):                          api.ErrMalformedXML,
			el(ofCors, el("CORSRule", text)):          api.ErrMalformedXML,
		} {
			want := without
			if !ok {
				want = api.ErrMalformedXML
			}
			if a := ask(s[1:strings.Index(s, ">")], s); !sameAnswer(a, answer{e: want}) {
				t.Errorf("%q: %v", s, a)
			}
			agrees(t, s)
		}
	}
}

func TestBoundsOfLists(t *testing.T) {
	const object = "<Object><Key/></Object>"
	const rule = "<CORSRule><AllowedOrigin>*</AllowedOrigin><AllowedMethod>GET</AllowedMethod></CORSRule>"
	const part = "<Part><PartNumber>1</PartNumber><ETag/></Part>"
	for _, c := range []struct {
		outer, item string
		n           int
		want        api.Errno
	}{
		{ofDelete, object, 0, 326}, {ofDelete, object, 1, 0}, {ofDelete, object, 2, 0}, {ofDelete, object, 999, 0}, {ofDelete, object, 1000, 0}, {ofDelete, object, 1001, 326}, {ofDelete, object, 2000, 326},
		{ofComplete, part, 0, 326}, {ofComplete, part, 1, 0}, {ofComplete, part, 2, 0}, {ofComplete, part, 1001, 0}, {ofComplete, part, 1400, 0},
		{ofCors, rule, 0, 326}, {ofCors, rule, 1, 0}, {ofCors, rule, 2, 0}, {ofCors, rule, 99, 0}, {ofCors, rule, 100, 0}, {ofCors, rule, 101, 326}, {ofCors, rule, 500, 326},
	} {
		s := el(c.outer, strings.Repeat(c.item, c.n))
		a := ask(c.outer, s)
		if items := len(a.names) + len(a.parts) + len(a.rules); a.e != c.want || a.e == api.OK && items != c.n || a.e != api.OK && items != 0 {
			t.Error(c.outer, c.n, items, a.e)
		}
		agrees(t, s)
	}
	for name, text := range map[string]string{"AllowedOrigin": "*", "AllowedMethod": "PUT", "AllowedHeader": "a", "ExposeHeader": "b"} {
		for _, n := range []int{1, 2, 101, 1001} {
			s := el(ofCors, el("CORSRule", el("AllowedOrigin", "o"), el("AllowedMethod", "GET"), strings.Repeat(el(name, text), n)))
			if a := ask(ofCors, s); a.e != api.OK || len(a.rules) != 1 {
				t.Error(name, n, a.e)
			}
			agrees(t, s)
		}
	}
}

// No document has room for 10,000 parts: the bound is asked of what a document would be read into.
func TestBoundOfParts(t *testing.T) {
	part := parsed(t, "<Part><PartNumber>1</PartNumber><ETag>e</ETag></Part>")
	for n, want := range map[int]bool{0: false, 1: true, 9999: true, 10000: true, 10001: false} {
		var l []api.PartRef
		if ok := holds(xml.Node{Name: ofComplete, Kids: slices.Repeat([]xml.Node{part}, n)}, completeKids(&l)); ok != want {
			t.Error(n, ok)
		}
	}
}

func TestNumbers(t *testing.T) {
	for text, want := range map[string]int{
		"0": 0, "1": 1, "10": 10, "10000": 10000, "10001": 10001, "2147483648": 2147483648, "999999999999999999": 999999999999999999, "&#49;": 1,
		"": -1, "1000000000000000000": -1, "9223372036854775808": -1, "00": -1, "01": -1, "-1": -1, "-0": -1, "+1": -1, " 1": -1, "1 ": -1, "1.0": -1, "1e3": -1, "0x1": -1, "1_0": -1, "x": -1, "١": -1, "1\n": -1,
	} {
		s := el(ofComplete, el("Part", el("PartNumber", text), el("ETag", "e")))
		if l, e := Complete(s); want < 0 && (e != api.ErrMalformedXML || l != nil) || want >= 0 && (e != api.OK || len(l) != 1 || l[0].Number != want) {
			t.Errorf("%q: %v %v", text, l, e)
		}
		agrees(t, s)
		s = el(ofCors, el("CORSRule", el("AllowedOrigin", "o"), el("AllowedMethod", "GET"), el("MaxAgeSeconds", text)))
		if l, e := Cors(s); want < 0 && (e != api.ErrMalformedXML || l != nil) || want >= 0 && (e != api.OK || len(l) != 1 || l[0].Age != want) {
			t.Errorf("%q: %v %v", text, l, e)
		}
		agrees(t, s)
	}
}

func TestETags(t *testing.T) {
	for text, want := range map[string]string{
		"": "", "x": "x", `"x"`: "x", `"x`: `"x`, `x"`: `x"`, `"`: `"`, `""`: "", `"""`: `"`, `""""`: `""`, `"x"y"`: `x"y`, ` "x"`: ` "x"`, `"x" `: `"x" `, "&quot;x&quot;": "x", "&#34;x&#x22;": "x", "&quot;": `"`, "'x'": "'x'", "“x”": "“x”", "\"\n\"": "\n", "W/\"x\"": "W/\"x\"",
	} {
		s := el(ofComplete, el("Part", el("PartNumber", "1"), el("ETag", text)))
		if l, e := Complete(s); e != api.OK || !slices.Equal(l, []api.PartRef{{Number: 1, ETag: want}}) {
			t.Errorf("%q: %v %v", text, l, e)
		}
		agrees(t, s)
	}
}

func tag(key, value string) string {
	return el("Tag", el("Key", key), el("Value", value))
}

func tagging(tags ...string) string {
	return el(ofTags, el("TagSet", tags...))
}

// tags writes n tags with keys of their own.
func tags(n int) []string {
	var l []string
	for i := range n {
		l = append(l, tag("k"+strconv.Itoa(i), "v"))
	}
	return l
}

func TestBoundsOfTags(t *testing.T) {
	long := func(piece string, n int) string { return strings.Repeat(piece, n) }
	for _, c := range []struct {
		tags []string
		want api.Errno
	}{
		{nil, 0}, {tags(1), 0}, {tags(9), 0}, {tags(10), 0}, {tags(11), 333}, {tags(12), 333}, {tags(1000), 333},
		{[]string{tag("", "v")}, 333}, {[]string{tag("k", "")}, 0}, {[]string{tag(" ", " ")}, 0},
		{[]string{tag(long("x", 128), "v")}, 0}, {[]string{tag(long("x", 129), "v")}, 333},
		{[]string{tag("k", long("x", 256))}, 0}, {[]string{tag("k", long("x", 257))}, 333},
		{[]string{tag(long("é", 128), long("é", 256))}, 0}, {[]string{tag(long("é", 129), "")}, 333}, {[]string{tag("k", long("é", 257))}, 333},
		{[]string{tag(long("\U0001F600", 128), long("€", 256))}, 0}, {[]string{tag(long("\U0001F600", 129), "")}, 333}, {[]string{tag("k", long("€", 257))}, 333},
		{[]string{tag(long("&amp;", 128), long("&#x20AC;", 256))}, 0}, {[]string{tag(long("&amp;", 129), "")}, 333}, {[]string{tag("k", long("&lt;", 257))}, 333},
		{[]string{tag(long("\r\n", 128), long("\r\n", 256))}, 0}, {[]string{tag(long("\r\n", 129), "")}, 333},
		{[]string{tag("a", "1"), tag("a", "2")}, 333}, {[]string{tag("a", "1"), tag("b", "1"), tag("a", "1")}, 333}, {[]string{tag("a", "1"), tag("&#97;", "2")}, 333}, {[]string{tag("a", "1"), tag("A", "1"), tag("a ", "1"), tag("á", "1"), tag("a\u0301", "1")}, 0},
		{append(tags(9), tag("k8", "v")), 333}, {append(tags(9), tag("", "v")), 333}, {append(tags(9), tag("x", long("y", 257))), 333},
	} {
		s := tagging(c.tags...)
		if l, e := Tags(s); e != c.want || e == api.OK && len(l) != len(c.tags) || e != api.OK && l != nil {
			t.Errorf("%.100q: %v %v", s, l, e)
		}
		agrees(t, s)
	}
}

// What is no such document is told ahead of what may be no tag.
func TestMalformedAheadOfInvalidTags(t *testing.T) {
	wrong := []string{tag("", "v"), tag("a", "1") + tag("a", "2"), tag(strings.Repeat("x", 129), ""), strings.Join(tags(11), "")}
	for _, w := range wrong {
		for _, s := range []string{
			tagging(w, el("Tag", el("Key", "b"))),
			tagging(el("Tag", el("Value", "b")), w),
			tagging(w, el("X")),
			tagging(w, "x"),
			el(ofTags, el("TagSet", w), el("TagSet")),
			el(ofTags, el("TagSet", w), el("X")),
			el("Tags", el("TagSet", w)),
			tagging(w) + "x",
			tagging(w) + strings.Repeat(" ", api.MaxXML),
		} {
			if l, e := Tags(s); l != nil || e != api.ErrMalformedXML {
				t.Errorf("%.100s: %v %v", s, l, e)
			}
			agrees(t, s)
		}
		if l, e := Tags(tagging(w)); l != nil || e != api.ErrInvalidTag {
			t.Error(w, l, e)
		}
	}
}

func TestTextsOfRules(t *testing.T) {
	for _, c := range []struct {
		name, text string
		ok         bool
	}{
		{"AllowedOrigin", "", true}, {"AllowedOrigin", "*", true}, {"AllowedOrigin", "http://*.a b", true}, {"AllowedOrigin", "é", true}, {"AllowedOrigin", "**", false}, {"AllowedOrigin", "*a*", false}, {"AllowedOrigin", "a\n*", true}, {"AllowedOrigin", "*\n*", false}, {"AllowedOrigin", "*&#42;", false},
		{"AllowedMethod", "GET", true}, {"AllowedMethod", "PUT", true}, {"AllowedMethod", "POST", true}, {"AllowedMethod", "DELETE", true}, {"AllowedMethod", "HEAD", true}, {"AllowedMethod", "OPTIONS", false}, {"AllowedMethod", "PATCH", false}, {"AllowedMethod", "get", false}, {"AllowedMethod", "", false}, {"AllowedMethod", "*", false}, {"AllowedMethod", " GET", false}, {"AllowedMethod", "GET ", false}, {"AllowedMethod", "GETPUT", false}, {"AllowedMethod", "GE", false}, {"AllowedMethod", "&#71;ET", true},
		{"AllowedHeader", "*", true}, {"AllowedHeader", "x-*", true}, {"AllowedHeader", "X-Amz-*-y", true}, {"AllowedHeader", "x", true}, {"AllowedHeader", "", false}, {"AllowedHeader", "**", false}, {"AllowedHeader", "*-*", false}, {"AllowedHeader", "a b", false}, {"AllowedHeader", "a:", false}, {"AllowedHeader", "é", false}, {"AllowedHeader", "a&#13;", false}, {"AllowedHeader", "a\n", false},
		{"ExposeHeader", "x", true}, {"ExposeHeader", "X-Amz-Id", true}, {"ExposeHeader", "*", true}, {"ExposeHeader", "*-*", true}, {"ExposeHeader", "", false}, {"ExposeHeader", "a b", false}, {"ExposeHeader", "a,b", false}, {"ExposeHeader", " a", false}, {"ExposeHeader", "a&#13;b", false}, {"ExposeHeader", "é", false},
		{"ID", "", true}, {"ID", "**", true}, {"ID", " é ", true}, {"ID", strings.Repeat("x", 300), true},
	} {
		s := el(ofCors, el("CORSRule", el("AllowedOrigin", "o"), el("AllowedMethod", "GET"), el(c.name, c.text)))
		a := ask(ofCors, s)
		if (a.e == api.OK) != c.ok || a.e != api.OK && !sameAnswer(a, answer{e: 326}) {
			t.Errorf("%s %q: %v", c.name, c.text, a)
		}
		agrees(t, s)
	}
}

func TestNoDocuments(t *testing.T) {
	for _, s := range []string{"", " ", "x", "<", "<a", "<a>", "<X/>", "\x00", "\xff", "{}", "<!--x-->", "<VersioningConfiguration>", "</VersioningConfiguration>", "<VersioningConfiguration></versioningConfiguration>", "<a:VersioningConfiguration/>", "<!--x--><VersioningConfiguration/>", "<VersioningConfiguration/><VersioningConfiguration/>", "<VersioningConfiguration>&x;</VersioningConfiguration>", "<versioningconfiguration/>", "<VersioningConfigurations/>", "<VersioningConfiguration\xff/>", "<Tagging><TagSet><Tag><Key>\x01</Key><Value/></Tag></TagSet></Tagging>", "<Delete><Object><Key>\xff</Key></Object></Delete>", "<Delete><Object><Key>&#0;</Key></Object></Delete>"} {
		for _, outer := range outermost {
			if a := ask(outer, s); !sameAnswer(a, answer{e: api.ErrMalformedXML}) {
				t.Errorf("%s %q: %v", outer, s, a)
			}
		}
		agrees(t, s)
	}
}

func TestLengths(t *testing.T) {
	for _, s := range samples() {
		outer := s[1:strings.IndexAny(s, "/>")]
		for _, size := range []int{65535, 65536, 65537, 70000} {
			for _, long := range []string{s + strings.Repeat(" ", size-len(s)), strings.Repeat("\n", size-len(s)) + s} {
				if a := ask(outer, long); (a.e == api.OK) != (size <= 65536) || a.e != api.OK && !sameAnswer(a, answer{e: 326}) {
					t.Error(outer, size, a.e)
				}
			}
		}
	}
}

// Each byte of each sample left out, changed, or with another ahead of it.
func TestChangedBytes(t *testing.T) {
	for _, s := range samples() {
		for i := range len(s) {
			agrees(t, s[:i])
			agrees(t, s[i:])
			agrees(t, s[:i]+s[i+1:])
			for _, c := range []string{" ", "\r", "x", "<", ">", "/", "&", "0", "*", "\"", "é", "\xff", "\x00", "<ID/>", "<Key>", "</Key>", "&#42;"} {
				agrees(t, s[:i]+c+s[i:])
				agrees(t, s[:i]+c+s[i+1:])
			}
		}
	}
}

// 15.4

// ends fails, if f does not end soon.
func ends(t *testing.T, what string, f func()) {
	t.Helper()
	done := make(chan struct{})
	go func() {
		defer close(done)
		f()
	}()
	select {
	case <-done:
	case <-time.After(20 * time.Second):
		t.Fatal(what, "does not end")
	}
}

func TestReadsEnd(t *testing.T) {
	pieces := []string{"<", "<Delete>", "<Object>", "<Object/>", "<Part>", "<Tag/>", tag("a", "b"), tag("é", ""), "<Key>", "<CORSRule>", "<AllowedOrigin>*", el("AllowedOrigin", "o"), "*", "\"", " ", "&#42;", "\xff", "<Status/>", "<X/>"}
	for _, outer := range outermost {
		for _, piece := range pieces {
			for _, inner := range []string{strings.Repeat(piece, 65000/len(piece)), strings.Repeat(piece, 66000/len(piece))} {
				for _, s := range []string{inner, el(outer, inner), el(outer, el("TagSet", inner)), el(outer, el("CORSRule", inner)), "<" + outer + ">" + inner} {
					ends(t, outer+piece, func() { agrees(t, s) })
				}
			}
		}
	}
}

// spare fills the room behind a list.
func spare[T any](l []T, with T) {
	for i := range l[len(l):cap(l)] {
		l[len(l):cap(l)][i] = with
	}
}

// spoil fills all lists of an answer, or only the room behind them.
func spoil(a answer, all bool) {
	over := 0
	if !all {
		over = 1
	}
	for i := range a.rules {
		for _, l := range [][]string{a.rules[i].Origins, a.rules[i].Methods, a.rules[i].Allow, a.rules[i].Expose} {
			spare(l[:len(l)*over], "spoilt")
		}
	}
	spare(a.names[:len(a.names)*over], api.Named{Key: "spoilt"})
	spare(a.parts[:len(a.parts)*over], api.PartRef{ETag: "spoilt"})
	spare(a.tags[:len(a.tags)*over], api.Tag{Key: "spoilt"})
	spare(a.rules[:len(a.rules)*over], api.Rule{Age: -1})
}

func TestReadsAreNewMemory(t *testing.T) {
	for _, s := range samples() {
		outer := s[1:strings.IndexAny(s, "/>")]
		want := model(outer, s)
		one, two := ask(outer, s), ask(outer, s)
		spoil(one, false)
		if !sameAnswer(one, want) {
			t.Error("lists of one answer share memory", s, one)
		}
		spoil(one, true)
		if three := ask(outer, s); !sameAnswer(two, want) || !sameAnswer(three, want) {
			t.Error("answers share memory", s, two, three)
		}
	}
}
