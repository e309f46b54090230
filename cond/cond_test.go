package cond

import (
	"fmt"
	"math"
	"math/rand/v2"
	"slices"
	"strings"
	"testing"

	"stowage/api"
	"stowage/when"
)

// 21.1

func TestTags(t *testing.T) {
	for value, want := range map[string][]string{
		`a`:                        {"a"},
		`"a"`:                      {"a"},
		`W/"a"`:                    {"a"},
		`W/a`:                      {"a"},
		" \t\"a\"\t ":              {"a"},
		`a,b`:                      {"a", "b"},
		`"a","b"`:                  {"a", "b"},
		` "a" ,	W/"b" , c `:        {"a", "b", "c"},
		`b,a,b`:                    {"b", "a", "b"},
		`"a`:                       {`"a`},
		`a"`:                       {`a"`},
		`"`:                        {`"`},
		`"""`:                      {`"`},
		`""a""`:                    {`"a"`},
		`"a"b"`:                    {`a"b`},
		`W/"`:                      {`"`},
		`W/"a`:                     {`"a`},
		`W/W/"a"`:                  {`W/"a"`},
		`"W/a"`:                    {`W/a`},
		`"W/"`:                     {`W/`},
		`w/"a"`:                    {`w/"a"`},
		`W"a"`:                     {`W"a"`},
		`/"a"`:                     {`/"a"`},
		`aW/`:                      {`aW/`},
		`W/ "a"`:                   {` "a"`},
		`" a "`:                    {" a "},
		`" "`:                      {" "},
		`a b`:                      {"a b"},
		`'a'`:                      {`'a'`},
		`"a;b"`:                    {"a;b"},
		`"a,b"`:                    {`"a`, `b"`},
		`"*"`:                      {"*"},
		`W/*`:                      {"*"},
		`*,*`:                      {"*", "*"},
		`a, *`:                     {"a", "*"},
		`**`:                       {"**"},
		"\n":                       {"\n"},
		"\u00a0":                   {"\u00a0"},
		"\xff\x00":                 {"\xff\x00"},
		"\"\u20ac\"":               {"\u20ac"},
		`"d41d8cd98f00b204e98-2"`:  {"d41d8cd98f00b204e98-2"},
		strings.Repeat(`"`, 1<<12): {strings.Repeat(`"`, 1<<12-2)},
	} {
		if l, all, ok := names(t, value); !slices.Equal(l, want) || all || !ok {
			t.Errorf("%.100q: %q %v %v", value, l, all, ok)
		}
	}
}

func TestTheStar(t *testing.T) {
	for _, value := range []string{"*", " *", "* ", "\t*\t", " \t * \t "} {
		if l, all, ok := names(t, value); len(l) > 0 || !all || !ok {
			t.Errorf("%q: %q %v %v", value, l, all, ok)
		}
	}
}

func TestTagsThatAreNotWellFormed(t *testing.T) {
	for _, value := range []string{"", " ", "\t", ",", ",,", " , ", "a,", ",a", "a,,b", "a, ,b", "a,b, ", `""`, `"",a`, `a,""`, "W/", `W/""`, `a, W/""`, ` W/ `, "*,", ",*", `a,W/,b`} {
		if l, all, ok := names(t, value); len(l) > 0 || all || ok {
			t.Errorf("%q: %q %v %v", value, l, all, ok)
		}
	}
}

// texts are all texts of up to so many of these pieces.
func texts(n int, pieces ...string) []string {
	all, longest := []string{""}, []string{""}
	for range n {
		var longer []string
		for _, s := range longest {
			for _, p := range pieces {
				longer = append(longer, s+p)
			}
		}
		all, longest = append(all, longer...), longer
	}
	return all
}

func TestTagsOfAllShortTexts(t *testing.T) {
	for _, s := range texts(6, `"`, "W", "/", ",", " ", "a", "*") {
		names(t, s)
	}
	for _, s := range texts(6, `"`, "W/", ",", "\t", "\n") {
		names(t, s)
	}
}

// 21.2

const (
	at   = 86400
	etag = "a"
)

// dates by where they lie beside the time that is asked of.
func datesAbout(t int) (ahead, same, behind string) {
	return when.Http(t - 1), when.Http(t), when.Http(t + 1)
}

func TestExamplesOfConditions(t *testing.T) {
	if e := asks(t, headers("if-none-match", `"a"`), "a", 0, true); e != api.ErrNotModified {
		t.Error(e)
	}
	if e := asks(t, nil, "a", 0, true); e != api.OK {
		t.Error(e)
	}
}

// conditionsAlone are headers by what they answer one who reads and one who writes.
func conditionsAlone() map[[2]string][2]api.Errno {
	ahead, same, behind := datesAbout(at)
	const no, has = api.ErrPreconditionFailed, api.ErrNotModified
	return map[[2]string][2]api.Errno{
		{"if-match", `"a"`}:               {},
		{"if-match", `a`}:                 {},
		{"if-match", `*`}:                 {},
		{"if-match", ` * `}:               {},
		{"if-match", `"b", W/"a"`}:        {},
		{"if-match", `"b"`}:               {no, no},
		{"if-match", `b,c`}:               {no, no},
		{"if-match", `"*"`}:               {no, no},
		{"if-match", `A`}:                 {no, no},
		{"if-match", `aa`}:                {no, no},
		{"if-match", `"a`}:                {no, no},
		{"if-match", ``}:                  {},
		{"if-match", `b,`}:                {},
		{"if-match", `""`}:                {},
		{"if-unmodified-since", ahead}:    {no, no},
		{"if-unmodified-since", same}:     {},
		{"if-unmodified-since", behind}:   {},
		{"if-unmodified-since", ""}:       {},
		{"if-unmodified-since", "0"}:      {},
		{"if-unmodified-since", "*"}:      {},
		{"if-none-match", `"a"`}:          {has, no},
		{"if-none-match", `a`}:            {has, no},
		{"if-none-match", `*`}:            {has, no},
		{"if-none-match", `"b", W/"a"`}:   {has, no},
		{"if-none-match", `"b"`}:          {},
		{"if-none-match", `"*"`}:          {},
		{"if-none-match", `a,`}:           {},
		{"if-none-match", `""`}:           {},
		{"if-none-match", ``}:             {},
		{"if-modified-since", ahead}:      {},
		{"if-modified-since", same}:       {has, 0},
		{"if-modified-since", behind}:     {has, 0},
		{"if-modified-since", ""}:         {},
		{"if-modified-since", "99999999"}: {},
		{"if-modified-since", "*"}:        {},
	}
}

func TestEachConditionAlone(t *testing.T) {
	for c, want := range conditionsAlone() {
		l := headers(c[0], c[1])
		for i, reads := range []bool{true, false} {
			if e := asks(t, l, etag, at, reads); e != want[i] {
				t.Errorf("%q %v: %d, not %d", c, reads, e, want[i])
			}
		}
		copied := api.OK
		if want[0] != api.OK {
			copied = api.ErrPreconditionFailed
		}
		if e := Copy(ofCopy(l), etag, at); e != copied {
			t.Errorf("%q copied: %d, not %d", c, e, copied)
		}
	}
}

func TestDatesThatAreNone(t *testing.T) {
	for _, date := range []string{"Thu, 02 Jan 1970 00:00:00 GMT", "Fri, 02 Jan 1970 00:00:00 UTC", "fri, 02 Jan 1970 00:00:00 GMT", "Fri, 2 Jan 1970 00:00:00 GMT", " Fri, 02 Jan 1970 00:00:00 GMT", "Fri, 02 Jan 1970 00:00:00 GMT ", "Fri, 02 Jan 1970 24:00:00 GMT", "Wed, 31 Dec 1969 23:59:59 GMT", "Friday, 02-Jan-70 00:00:00 GMT", "Fri Jan  2 00:00:00 1970", "19700102T000000Z", "1970-01-02T00:00:00.000Z", "86400", "Sat, 30 Feb 1980 00:00:00 GMT", "\"Fri, 02 Jan 1970 00:00:00 GMT\""} {
		for _, at := range []int{math.MinInt, -1, 0, 86399, 86400, 86401, math.MaxInt} {
			for _, name := range []string{"if-unmodified-since", "if-modified-since"} {
				if e := asks(t, headers(name, date), etag, at, true); e != api.OK {
					t.Error(name, date, at, e)
				}
			}
		}
	}
}

func TestTimesAheadSameAndBehind(t *testing.T) {
	const last = 253402300799
	for _, date := range []int{0, 1, 59, 86399, 86400, 951868799, 1369353600, last - 1, last} {
		for _, at := range []int{math.MinInt, -1, 0, 1, date - 1, date, date + 1, last, last + 1, math.MaxInt} {
			e := asks(t, headers("if-unmodified-since", when.Http(date)), etag, at, false)
			if (e == api.ErrPreconditionFailed) != (date < at) {
				t.Error(date, at, e)
			}
			e = asks(t, headers("if-modified-since", when.Http(date)), etag, at, true)
			if (e == api.ErrNotModified) != (date >= at) {
				t.Error(date, at, e)
			}
		}
	}
}

// Every two conditions, and all four together, each held and not, in either order of headers.
func TestConditionsTogether(t *testing.T) {
	ahead, same, behind := datesAbout(at)
	tags := []string{"-", `"a"`, `b`, `*`, ``, `a,`}
	dates := []string{"-", ahead, same, behind, "x"}
	told := map[api.Errno]int{}
	for _, match := range tags {
		for _, unmodified := range dates {
			for _, noneMatch := range tags {
				for _, modified := range dates {
					l := headers("if-match", match, "if-unmodified-since", unmodified, "if-none-match", noneMatch, "if-modified-since", modified)
					l = slices.DeleteFunc(l, func(h api.Header) bool { return h.Value == "-" })
					for _, reads := range []bool{true, false} {
						e := asks(t, l, etag, at, reads)
						told[e]++
						slices.Reverse(l)
						if asks(t, l, etag, at, reads) != e {
							t.Errorf("%q the other way round: not %d", l, e)
						}
					}
				}
			}
		}
	}
	if len(told) != 3 {
		t.Error(told)
	}
}

func TestWhichConditionTells(t *testing.T) {
	ahead, same, behind := datesAbout(at)
	for _, c := range []struct {
		l             []api.Header
		reads, writes api.Errno
	}{
		{headers("if-match", "a", "if-unmodified-since", ahead), 0, 0},
		{headers("if-match", "*", "if-unmodified-since", ahead), 0, 0},
		{headers("if-match", "b", "if-unmodified-since", behind), 327, 327},
		{headers("if-match", "a,", "if-unmodified-since", ahead), 327, 327},
		{headers("if-match", "b,", "if-unmodified-since", same), 0, 0},
		{headers("if-match", "a", "if-none-match", "a"), 328, 327},
		{headers("if-match", "a", "if-none-match", "b"), 0, 0},
		{headers("if-match", "b", "if-none-match", "a"), 327, 327},
		{headers("if-match", "b", "if-none-match", "b"), 327, 327},
		{headers("if-match", "a", "if-modified-since", same), 328, 0},
		{headers("if-match", "b", "if-modified-since", same), 327, 327},
		{headers("if-unmodified-since", same, "if-none-match", "*"), 328, 327},
		{headers("if-unmodified-since", ahead, "if-none-match", "*"), 327, 327},
		{headers("if-unmodified-since", same, "if-modified-since", same), 328, 0},
		{headers("if-unmodified-since", ahead, "if-modified-since", same), 327, 327},
		{headers("if-none-match", "b", "if-modified-since", behind), 0, 0},
		{headers("if-none-match", "a", "if-modified-since", ahead), 328, 327},
		{headers("if-none-match", ",", "if-modified-since", behind), 328, 0},
		{headers("if-none-match", "", "if-modified-since", ahead), 0, 0},
		{headers("if-match", "a", "if-unmodified-since", ahead, "if-none-match", "b", "if-modified-since", behind), 0, 0},
	} {
		if e := asks(t, c.l, etag, at, true); e != c.reads {
			t.Errorf("%q: %d, not %d", c.l, e, c.reads)
		}
		if e := asks(t, c.l, etag, at, false); e != c.writes {
			t.Errorf("%q: %d, not %d", c.l, e, c.writes)
		}
	}
}

// Of a header that is told twice the first counts, though the second may be the better one.
func TestConditionsToldTwice(t *testing.T) {
	alone := conditionsAlone()
	for c, want := range alone {
		for other := range alone {
			if other[0] != c[0] {
				continue
			}
			l := headers(c[0], c[1], "x", "y", c[0], other[1])
			if e := asks(t, l, etag, at, true); e != want[0] {
				t.Errorf("%q: %d, not %d", l, e, want[0])
			}
			if e := asks(t, l, etag, at, false); e != want[1] {
				t.Errorf("%q: %d, not %d", l, e, want[1])
			}
		}
	}
}

// Names are small already: what is written otherwise is another header.
func TestOtherNames(t *testing.T) {
	ahead, _, behind := datesAbout(at)
	for _, h := range headers("If-Match", "b", "if-match ", "b", "if_match", "b", "if-matches", "b", "match", "b", "IF-NONE-MATCH", "a", "none-match", "a", "if-unmodified", ahead, "If-Unmodified-Since", ahead, "if-modified", behind, "modified-since", behind, "x-amz-copy-source-if-match", "b", "x-amz-copy-source-if-none-match", "a", "x-amz-copy-source-if-unmodified-since", ahead, "x-amz-copy-source-if-modified-since", behind, "x-amz-if-match", "b", "x-amz-copy-source", "b", "", "b") {
		if e := asks(t, []api.Header{h}, etag, at, true); e != api.OK {
			t.Error(h, e)
		}
	}
	for _, h := range headers("if-match", "b", "if-none-match", "a", "if-unmodified-since", ahead, "if-modified-since", behind, "X-Amz-Copy-Source-If-Match", "b", "x-amz-copy-source-if-none-match ", "a", "copy-source-if-none-match", "a", "x-amz-copy-source", "a", "x-amz-copy-sourceif-match", "b") {
		if e := Copy([]api.Header{h}, etag, at); e != api.OK || copyModel([]api.Header{h}, etag, at) != api.OK {
			t.Error(h, e)
		}
	}
}

func TestCopyTellsOneError(t *testing.T) {
	ahead, same, behind := datesAbout(at)
	const p = "x-amz-copy-source-if-"
	for _, c := range []struct {
		l []api.Header
		e api.Errno
	}{
		{headers(p+"match", "a"), 0}, {headers(p+"match", "b"), 327}, {headers(p+"match", "*"), 0},
		{headers(p+"unmodified-since", ahead), 327}, {headers(p+"unmodified-since", same), 0},
		{headers(p+"none-match", "a"), 327}, {headers(p+"none-match", "*"), 327}, {headers(p+"none-match", "b"), 0},
		{headers(p+"modified-since", ahead), 0}, {headers(p+"modified-since", same), 327}, {headers(p+"modified-since", behind), 327},
		{headers(p+"match", "a", p+"unmodified-since", ahead), 0}, {headers(p+"none-match", "b", p+"modified-since", behind), 0},
		{headers(p+"match", "a", p+"none-match", "a"), 327}, {headers(p+"match", "a", p+"modified-since", behind), 327},
	} {
		if e := Copy(c.l, etag, at); e != c.e || copyModel(c.l, etag, at) != c.e {
			t.Errorf("%q: %d, not %d", c.l, e, c.e)
		}
	}
}

func TestNoiseOfConditions(t *testing.T) {
	rnd := rand.New(rand.NewPCG(21, 2))
	pick := func(l []string) string { return l[rnd.IntN(len(l))] }
	names := []string{"if-match", "if-none-match", "if-unmodified-since", "if-modified-since", "if-match", "If-Match", "x", "x-amz-copy-source-if-match"}
	values := []string{"", "*", "a", `"a"`, `W/"b"`, "b", ",", `""`, "a,b", "b , c", "x", `"`, when.Http(5), when.Http(6), when.Http(7), when.Http(6)[1:]}
	told := map[api.Errno]int{}
	for range 100000 {
		var l []api.Header
		for range rnd.IntN(6) {
			value := pick(values)
			if rnd.IntN(4) == 0 {
				value += pick([]string{",", " ", ", "}) + pick(values)
			}
			l = append(l, api.Header{Name: pick(names), Value: value})
		}
		told[asks(t, l, pick([]string{"a", "b", "", "*", `"a"`}), 5+rnd.IntN(3), rnd.IntN(2) == 0)]++
	}
	if len(told) != 3 || told[0] < 10000 || told[327] < 10000 || told[328] < 1000 {
		t.Error(told)
	}
}

// 21.5

func TestAnEtagHoldsOfItself(t *testing.T) {
	rnd := rand.New(rand.NewPCG(21, 5))
	var etags []string
	for range 200 {
		b := make([]byte, 1+rnd.IntN(40))
		for i := range b {
			b[i] = "0123456789abcdef-"[rnd.IntN(17)]
		}
		etags = append(etags, string(b))
	}
	for i, s := range etags {
		other := etags[(i+1)%len(etags)]
		for _, form := range []string{"%s", `"%s"`, `W/"%s"`, ` "%s" `, `x, "%s"`, `"%s", y`} {
			for _, reads := range []bool{true, false} {
				l := fmt.Sprintf(form, s)
				if asks(t, headers("if-match", l), s, 0, reads) != api.OK || asks(t, headers("if-none-match", l), s, 0, reads) == api.OK {
					t.Errorf("%q is not %q", l, s)
				}
				if s != other && (asks(t, headers("if-match", l), other, 0, reads) == api.OK || asks(t, headers("if-none-match", l), other, 0, reads) != api.OK) {
					t.Errorf("%q is %q", l, other)
				}
			}
		}
	}
}

// 21.7

func TestCallsEndAndLeaveAlone(t *testing.T) {
	long := strings.Repeat
	for _, s := range []string{"", long(",", 1<<18), long("a,", 1<<17), long(" ", 1<<20), long(`"`, 1<<20), long("W/", 1<<19), long("*", 1<<20), long("-", 1<<20), "bytes=" + long("-", 1<<20), "bytes=" + long("9", 1<<20) + "-", "bytes=-" + long("0", 1<<20), long("\x00", 1<<20), long("A", 1<<20), long("=", 1<<20)} {
		Tags(s)
		Range(s, 10)
		l := headers("if-match", s, "if-none-match", s, "if-unmodified-since", s, "if-modified-since", s, "content-md5", s)
		Ask(l, s, 0, true)
		Copy(ofCopy(l), s, 0)
		Digest(l, []byte(s))
	}
	var many []api.Header
	for range 1 << 16 {
		many = append(many, headers("if-match", "a", "if-none-match", "b", "x", "y")...)
	}
	if asks(t, many, "a", 0, true) != api.OK || digests(t, many, nil) != api.OK {
		t.Error("many headers")
	}
}

func TestHandedInIsLeftAlone(t *testing.T) {
	l := headers("if-match", ` "a" , W/"b"`, "if-none-match", "c", "if-unmodified-since", when.Http(9), "content-md5", "1B2M2Y8AsgTpgAmY7PhCfg==", "spare", "room", "more", "room")
	was := slices.Clone(l)
	data := []byte("some data and more")
	Ask(l[:4], "a", 9, true)
	Copy(ofCopy(l[:4]), "a", 9)
	Digest(l[:4], data[:0])
	Digest(l[:4], data[:9])
	if !slices.Equal(l, was) || string(data) != "some data and more" {
		t.Errorf("%q %q", l, data)
	}
}

func TestTagsAreNewMemory(t *testing.T) {
	const value = "a,b,c"
	one, _, _ := Tags(value)
	other, _, _ := Tags(value)
	for i := range one[:cap(one)] {
		one[:cap(one)][i] = "z"
	}
	_ = append(one, "z", "z", "z")
	if third, _, _ := Tags(value); !slices.Equal(other, []string{"a", "b", "c"}) || !slices.Equal(third, other) {
		t.Error(other, third)
	}
}
