package chunk

import (
	"fmt"
	"math"
	"strings"
	"testing"

	"stowage/api"
	"stowage/sig"
)

// 19.2

func TestDecode(t *testing.T) {
	for _, pieces := range [][]string{
		nil,
		{"a"},
		{"abc"},
		{"a", "b"},
		{"a", "bc", "def", "g"},
		{"\r\n"},
		{"\r", "\n", "\r\n\r\n"},
		{"0;chunk-signature=" + strings.Repeat("0", 64) + "\r\n\r\n"}, // data that look like a chunk
		{textOf(chain(who, "abc")), "x"},
		{"\x00", "\xff", "\u00e9"},
		{sample(15), sample(16), sample(17), sample(255), sample(256), sample(65536)},
	} {
		taken(t, who, textOf(chain(who, pieces...)), strings.Join(pieces, ""))
	}
}

func TestDecodeKnown(t *testing.T) {
	if data, e := Decode(known, []byte(knownBody()), 66560); e != api.OK || string(data) != strings.Repeat("a", 66560) {
		t.Errorf("%.50q %d", data, e)
	}
	for _, size := range []int{0, 65536, 66559, 66561} {
		if data, e := Decode(known, []byte(knownBody()), size); e != api.ErrIncompleteBody || data != nil {
			t.Errorf("%.50q %d", data, e)
		}
	}
}

// Noughts ahead of a length say nothing, up to eight digits; they are not signed.
func TestDigits(t *testing.T) {
	for _, size := range []int{0, 1, 9, 10, 15, 16, 171, 4096, 65535, 1048575, 16777215} {
		for digits := 1; digits <= 9; digits++ {
			told := fmt.Sprintf("%0*x", digits, size)
			l := chain(who, sample(size))
			if size == 0 {
				l = chain(who)
			}
			l[0].digits = told
			switch {
			case len(told) <= 8 && size <= 65535:
				taken(t, who, textOf(l), sample(size))
			case len(told) <= 8:
				if data, e := Decode(who, []byte(textOf(l)), size); e != api.OK || len(data) != size {
					t.Error(told, e)
				}
			default:
				refused(t, who, textOf(l[:1])+"0", size, api.ErrBadRequest)
			}
		}
	}
}

// Also of the last chunk, of which any number of digits up to eight is a length of 0.
func TestLastDigits(t *testing.T) {
	for digits := range 12 {
		l := chain(who, "abc", "d")
		l[2].digits = strings.Repeat("0", digits)
		if 1 <= digits && digits <= 8 {
			taken(t, who, textOf(l), "abcd")
		} else {
			refused(t, who, textOf(l), 4, api.ErrBadRequest)
		}
	}
}

// wrongForms are ways in which a chunk is of another form than it should be, wherever it stands.
func wrongForms() map[string]func(c *link) {
	forms := map[string]func(c *link){}
	for _, digits := range []string{"", "000000000", "000000003", "123456789", "ffffffff0", "A", "0A", "F", "aB", "g", "0x3", "-3", "+3", " 3", "3 ", "3\r\n", "\r\n3", ";", ":", "/", "`", "\xff", "0\x00"} {
		forms["digits "+digits] = func(c *link) { c.digits = digits }
	}
	for _, word := range []string{"", ";", "=", ";chunk-signature", "chunk-signature=", ":chunk-signature=", ";chunk_signature=", ";Chunk-signature=", ";chunk-Signature=", ";CHUNK-SIGNATURE=", ";chunk-signature:", "; chunk-signature=", " ;chunk-signature=", ";chunk-signature =", ";chunk-signature= ", ";;chunk-signature=", ";chunk-signature==", ";a=b;chunk-signature=", ";signature=", "\r\n"} {
		forms["word "+word] = func(c *link) { c.word = word }
	}
	for name, signature := range map[string]func(s string) string{
		"none":          func(string) string { return "" },
		"one":           func(s string) string { return s[:1] },
		"63":            func(s string) string { return s[:63] },
		"63 at the end": func(s string) string { return s[1:] },
		"65":            func(s string) string { return s + "0" },
		"65 ahead":      func(s string) string { return "0" + s },
		"128":           func(s string) string { return s + s },
		"capitals":      func(s string) string { return strings.ToUpper(s[:63]) + "A" },
		"one capital":   func(s string) string { return s[:20] + "F" + s[21:] },
		"a g":           func(s string) string { return s[:63] + "g" },
		"blank ahead":   func(s string) string { return " " + s[1:] },
		"blank behind":  func(s string) string { return s + " " },
		"quotes":        func(s string) string { return `"` + s + `"` },
		"more":          func(s string) string { return s + ";a=b" },
	} {
		forms["signature "+name] = func(c *link) { c.signature = signature(c.signature) }
	}
	for _, end := range []string{"\r", "\n", "\n\r", "\r\r\n", "\n\n", " \r\n", "x\r\n", "\r \n", "\t"} {
		forms[fmt.Sprintf("end %q", end)] = func(c *link) { c.end = end }
	}
	for _, tail := range []string{"\n", "\n\r", "\r\r", "\r\r\n", " \r\n", "x\r\n", "\rx", "xx"} {
		forms[fmt.Sprintf("tail %q", tail)] = func(c *link) { c.tail = tail }
	}
	for _, data := range []string{"x", "longer than it is told"} {
		forms["data and "+data] = func(c *link) { c.data += data }
	}
	return forms
}

func TestWrongForms(t *testing.T) {
	pieces := []string{"abcdefghij", "k", "lmn"}
	for name, do := range wrongForms() {
		for i := range 4 {
			l := chain(who, pieces...)
			do(&l[i])
			if _, e := decode(t, who, textOf(l), 14); e != api.ErrBadRequest {
				t.Errorf("%s, chunk %d: %d", name, i, e)
			}
		}
	}
}

// An end that is missing is told by what stands there instead; where nothing does, the body is cut off.
func TestMissingEnds(t *testing.T) {
	for i := range 3 {
		l := chain(who, "abc", "d")
		l[i].end = ""
		want := api.ErrBadRequest
		if i == 2 { // the end behind the data stands where that of the line should be
			want = api.ErrIncompleteBody
		}
		refused(t, who, textOf(l), 4, want)
		for _, tail := range []string{"", "\r"} {
			l = chain(who, "abc", "d")
			l[i].tail = tail
			refused(t, who, textOf(l), 4, want)
		}
		l = chain(who, "abc", "d")
		l[i].end, l[i].tail = "", ""
		refused(t, who, textOf(l), 4, want)
	}
	// The next chunk may look like an end that is missing: then the data are others.
	l := chain(who, "abc", "\r\nd")
	l[0].end, l[0].data, l[0].tail = "\r\n", "", "\r\n"
	refused(t, who, textOf(l), 6, api.ErrBadRequest)
}

// Fewer bytes than a length tells reach into the next chunk; in the last piece of a body they end it.
func TestWrongLengths(t *testing.T) {
	for i := range 2 {
		for _, digits := range []string{"1", "2", "4", "5", "00000004", "f", "10"} {
			l := chain(who, "abc", "def")
			l[i].digits = digits
			refused(t, who, textOf(l), 6, api.ErrBadRequest)
		}
		// A length of 0 makes it the last one, with data where its end should be.
		l := chain(who, "abc", "def")
		l[i].digits = "0"
		refused(t, who, textOf(l), 6, api.ErrBadRequest)
		l[i].data = ""
		refused(t, who, textOf(l), 6, api.ErrBadRequest)
		l[i].signature = signModel(who, who.Signature, "")
		refused(t, who, textOf(l), 6, api.ErrBadRequest)
	}
}

func TestSomethingBehindTheLast(t *testing.T) {
	for _, pieces := range [][]string{nil, {"abc"}, {"a", "bc"}} {
		body, data := textOf(chain(who, pieces...)), strings.Join(pieces, "")
		taken(t, who, body, data)
		for _, behind := range []string{"x", "0", "\r", "\n", "\r\n", "\x00", " ", "\r\n\r\n", "0;chunk-signature=", body, textOf(chain(who)), "x-amz-trailer-signature:" + who.Signature + "\r\n"} {
			refused(t, who, body+behind, len(data), api.ErrBadRequest)
		}
	}
}

// bodies are some bodies that are as they should be, with the data they hold.
func bodies() map[string]string {
	l := map[string]string{}
	for _, pieces := range [][]string{nil, {"abc"}, {"a", "\r\n", "0;chunk", "123456789012345678"}, {"\r\n\r\n", sample(40)}} {
		l[textOf(chain(who, pieces...))] = strings.Join(pieces, "")
		padded := chain(who, pieces...)
		for i := range padded {
			padded[i].digits = strings.Repeat("0", 8-i-len(padded[i].digits)) + padded[i].digits
		}
		l[textOf(padded)] = strings.Join(pieces, "")
	}
	return l
}

func TestCutOffAtEachByte(t *testing.T) {
	for body, data := range bodies() {
		taken(t, who, body, data)
		for k := range body {
			for _, size := range []int{len(data), 0, k} {
				refused(t, who, body[:k], size, api.ErrIncompleteBody)
			}
		}
	}
}

// A body that ends within a chunk is BadRequest as soon as a byte of it can be in none.
func TestCutOffBehindAWrongByte(t *testing.T) {
	tally := map[api.Errno]int{}
	for body, data := range bodies() {
		for k := range body {
			for _, c := range "x0aAfg;=\r\n \xff" {
				_, e := decode(t, who, body[:k]+string(c), len(data))
				tally[e]++
				_, e = decode(t, who, body[:k]+string(c)+body[min(k+1, len(body)):], len(data))
				tally[e]++
			}
			_, e := decode(t, who, body[:k]+body[k+1:], len(data))
			tally[e]++
			_, e = decode(t, who, body[:k+1]+body[k:], len(data))
			tally[e]++
		}
	}
	for _, e := range []api.Errno{api.OK, api.ErrBadRequest, api.ErrIncompleteBody, api.ErrSignatureDoesNotMatch} {
		if tally[e] < 10 {
			t.Error(e, tally)
		}
	}
}

// By hand: what may begin a chunk, and what may not.
func TestBeginnings(t *testing.T) {
	head := ";chunk-signature=" + strings.Repeat("0", 64)
	for body, want := range map[string]api.Errno{
		"":                             api.ErrIncompleteBody,
		"0":                            api.ErrIncompleteBody,
		"f":                            api.ErrIncompleteBody,
		"12345678":                     api.ErrIncompleteBody,
		"123456789":                    api.ErrBadRequest,
		";":                            api.ErrBadRequest,
		"\r":                           api.ErrBadRequest,
		"\r\n":                         api.ErrBadRequest,
		"12345678;":                    api.ErrIncompleteBody,
		"1;chunk":                      api.ErrIncompleteBody,
		"1;chunk ":                     api.ErrBadRequest,
		"1;c0":                         api.ErrBadRequest,
		"1;chunk-signature":            api.ErrIncompleteBody,
		"1;chunk-signature=":           api.ErrIncompleteBody,
		"1;chunk-signature=\r":         api.ErrBadRequest,
		"1;chunk-signature=f":          api.ErrIncompleteBody,
		"1;chunk-signature=F":          api.ErrBadRequest,
		"1" + head[:80]:                api.ErrIncompleteBody,
		"1" + head[:80] + "\r":         api.ErrBadRequest,
		"1" + head:                     api.ErrIncompleteBody,
		"1" + head + "0":               api.ErrBadRequest,
		"1" + head + "\n":              api.ErrBadRequest,
		"1" + head + "\r":              api.ErrIncompleteBody,
		"1" + head + "\r\r":            api.ErrBadRequest,
		"1" + head + "\r\n":            api.ErrIncompleteBody,
		"1" + head + "\r\nx":           api.ErrIncompleteBody,
		"1" + head + "\r\nxy":          api.ErrBadRequest,
		"1" + head + "\r\nx\r":         api.ErrIncompleteBody,
		"1" + head + "\r\nx\n":         api.ErrBadRequest,
		"1" + head + "\r\nx\rx":        api.ErrBadRequest,
		"1" + head + "\r\nx\r\n":       api.ErrSignatureDoesNotMatch,
		"1" + head + "\r\nx\r\ny":      api.ErrSignatureDoesNotMatch,
		"2" + head + "\r\nx\r":         api.ErrIncompleteBody,
		"2" + head + "\r\nx\r\n":       api.ErrBadRequest,
		"3" + head + "\r\nx\r\n":       api.ErrIncompleteBody,
		"0" + head + "\r\n":            api.ErrIncompleteBody,
		"0" + head + "\r\nx":           api.ErrBadRequest,
		"0" + head + "\r\n\r":          api.ErrIncompleteBody,
		"0" + head + "\r\n\r\n":        api.ErrSignatureDoesNotMatch,
		"0" + head + "\r\n\r\n0":       api.ErrBadRequest,
		"ffffffff" + head + "\r\n":     api.ErrIncompleteBody,
		"ffffffff" + head + "\r\nx":    api.ErrIncompleteBody,
		"ffffffff" + head + "\n\r":     api.ErrBadRequest,
		"fffffffff" + head + "\r\nx":   api.ErrBadRequest,
		"80000000" + head + "\r\n\r\n": api.ErrIncompleteBody,
	} {
		refused(t, who, body, 1, want)
	}
}

// A length that is more than what is left, up to the greatest, behind chunks that are as they should be.
func TestMoreThanIsLeft(t *testing.T) {
	for i := range 3 {
		for _, digits := range []string{"ffffffff", "fffffffe", "80000000", "7fffffff", "10000000", "00001000", "1000"} {
			l := chain(who, "abc", "d", "efg")
			l[i].digits = digits
			refused(t, who, textOf(l), 7, api.ErrIncompleteBody)
			refused(t, who, textOf(l[:i+1]), 7, api.ErrIncompleteBody)
		}
	}
	// All that is left, and one or two bytes more.
	l := chain(who, "abc", "def")
	left := len(textOf(l[1:])) + 5
	for more, want := range map[int]api.Errno{-3: api.ErrBadRequest, -2: api.ErrSignatureDoesNotMatch, -1: api.ErrBadRequest, 0: api.ErrIncompleteBody, 1: api.ErrIncompleteBody} {
		l[0].digits = fmt.Sprintf("%x", left+more)
		refused(t, who, textOf(l), 6, want)
	}
}

func TestWrongSignatures(t *testing.T) {
	for i := range 4 {
		for name, signature := range map[string]string{"noughts": strings.Repeat("0", 64), "the request's": who.Signature, "of nothing": Sign(who, who.Signature, nil), "of the next": chain(who, "a", "bc", "d")[(i+1)%4].signature} {
			l := chain(who, "a", "bc", "d")
			l[i].signature = signature
			if _, e := decode(t, who, textOf(l), 4); e != api.ErrSignatureDoesNotMatch {
				t.Error(i, name, e)
			}
		}
		// One that goes on from the wrong one: each chunk by itself is signed by the key.
		l := chain(who, "a", "bc", "d")
		l[i].signature = signModel(who, strings.Repeat("0", 64), l[i].data)
		refused(t, who, textOf(l), 4, api.ErrSignatureDoesNotMatch)
	}
	first := chain(who, "a", "bc", "d")
	for name, l := range map[string][]link{
		"swapped":         {first[1], first[0], first[2], first[3]},
		"left out":        {first[0], first[2], first[3]},
		"left out first":  first[1:],
		"ended too early": {first[0], first[3]},
		"doubled":         {first[0], first[0], first[1], first[2], first[3]},
		"another's last":  {first[0], first[1], first[2], chain(who, "x")[1]},
	} {
		if _, e := decode(t, who, textOf(l), 4); e != api.ErrSignatureDoesNotMatch {
			t.Error(name, e)
		}
	}
}

// The chain begins with the request's signature, and is of its date, scope and key.
func TestAnothersChunks(t *testing.T) {
	for _, pieces := range [][]string{nil, {"abc"}} {
		body := textOf(chain(who, pieces...))
		other := who
		other.Signature = strings.Repeat("5f", 32)
		for _, w := range append(others(who), other, sig.Who{}) {
			refused(t, w, body, 3, api.ErrSignatureDoesNotMatch)
			taken(t, w, textOf(chain(w, pieces...)), strings.Join(pieces, ""))
		}
		// Who it is by name, and the kind of payload, are not in the chain.
		other = who
		other.ID, other.Payload = "", "x"
		taken(t, other, body, strings.Join(pieces, ""))
	}
}

func TestToldSizes(t *testing.T) {
	for _, pieces := range [][]string{nil, {"a"}, {"abc", "def"}} {
		body, data := textOf(chain(who, pieces...)), strings.Join(pieces, "")
		taken(t, who, body, data)
		for _, size := range []int{len(data) - 1, len(data) + 1, -1, -len(data) - 1, len(body), 1 << 32, 1<<32 + len(data), math.MaxInt, math.MinInt} {
			refused(t, who, body, size, api.ErrIncompleteBody)
		}
	}
	refused(t, who, textOf(chain(who, "abc")), 0, api.ErrIncompleteBody)
}

// spoiling is something that makes one chunk wrong. In one chunk those of a lower rank tell first.
type spoiling struct {
	name string
	rank int
	want api.Errno
	do   func(l []link, i int) []link
}

func spoilings() []spoiling {
	cut := func(where func(c *link) *string, rest ...func(c *link) *string) func(l []link, i int) []link {
		return func(l []link, i int) []link {
			half := where(&l[i])
			*half = (*half)[:len(*half)/2]
			for _, field := range rest {
				*field(&l[i]) = ""
			}
			return l[:i+1]
		}
	}
	word := func(c *link) *string { return &c.word }
	signature := func(c *link) *string { return &c.signature }
	end := func(c *link) *string { return &c.end }
	data := func(c *link) *string { return &c.data }
	tail := func(c *link) *string { return &c.tail }
	return []spoiling{
		{"no digits", 1, api.ErrBadRequest, func(l []link, i int) []link { l[i].digits = ""; return l }},
		{"a capital digit", 1, api.ErrBadRequest, func(l []link, i int) []link { l[i].digits = "A"; return l }},
		{"another word", 2, api.ErrBadRequest, func(l []link, i int) []link { l[i].word = ";chunk_signature="; return l }},
		{"cut off in the word", 3, api.ErrIncompleteBody, cut(word, signature, end, data, tail)},
		{"a g in the signature", 4, api.ErrBadRequest, func(l []link, i int) []link { l[i].signature = "g" + l[i].signature[1:]; return l }},
		{"cut off in the signature", 5, api.ErrIncompleteBody, cut(signature, end, data, tail)},
		{"cut off in the line's end", 6, api.ErrIncompleteBody, cut(end, data, tail)},
		{"too much is told", 7, api.ErrIncompleteBody, func(l []link, i int) []link { l[i].digits = "ffffffff"; return l }},
		{"a wrong tail", 8, api.ErrBadRequest, func(l []link, i int) []link { l[i].tail = "\n\r"; return l }},
		{"cut off in the tail", 9, api.ErrIncompleteBody, cut(tail)},
		{"a wrong signature", 10, api.ErrSignatureDoesNotMatch, func(l []link, i int) []link { l[i].signature = strings.Repeat("0", 64); return l }},
	}
}

// Of two chunks the first tells; in one chunk its form ahead of its end, as far as that goes, and both ahead of its signature; the size at last.
func TestWhatComesFirst(t *testing.T) {
	fresh := func() []link { return chain(who, "abc", "def", "ghi") }
	all := spoilings()
	for _, a := range all {
		for i := range 4 {
			for _, size := range []int{9, 0, -1} {
				refused(t, who, textOf(a.do(fresh(), i)), size, a.want)
			}
			for _, b := range all {
				// Another chunk behind it.
				for k := i + 1; k < 4; k++ {
					refused(t, who, textOf(a.do(b.do(fresh(), k), i)), 9, a.want)
				}
				// The same chunk.
				if a.rank < b.rank {
					refused(t, who, textOf(a.do(b.do(fresh(), i), i)), 9, a.want)
				}
			}
		}
	}
}

// Of the last chunk what stands behind it tells ahead of its signature, but behind those of the chunks ahead.
func TestBehindTheLastComesFirst(t *testing.T) {
	l := chain(who, "abc", "def")
	l[2].signature = strings.Repeat("0", 64)
	refused(t, who, textOf(l), 6, api.ErrSignatureDoesNotMatch)
	for _, behind := range []string{"x", "\r\n", textOf(l)} {
		refused(t, who, textOf(l)+behind, 6, api.ErrBadRequest)
		refused(t, who, textOf(l)+behind, 5, api.ErrBadRequest)
	}
	for i := range 2 {
		l = chain(who, "abc", "def")
		l[i].signature = strings.Repeat("0", 64)
		refused(t, who, textOf(l)+"x", 6, api.ErrSignatureDoesNotMatch)
	}
}

// Every text that is put together of four of the pieces that chunks are made of.
func TestPutTogether(t *testing.T) {
	l := chain(who, "ab", "c")
	pieces := []string{l[0].text(), l[1].text(), l[2].text(), "2", "0", "1", ";chunk-signature=", l[0].signature, l[1].signature, "\r\n", "\r", "ab", "c", chain(who)[0].text()}
	tally := map[api.Errno]int{}
	var grow func(body string, left int)
	grow = func(body string, left int) {
		for _, size := range []int{0, 3} {
			_, e := decode(t, who, body, size)
			tally[e]++
		}
		if left > 0 {
			for _, piece := range pieces {
				grow(body+piece, left-1)
			}
		}
	}
	grow("", 4)
	for _, e := range []api.Errno{api.OK, api.ErrBadRequest, api.ErrIncompleteBody, api.ErrSignatureDoesNotMatch} {
		if tally[e] == 0 {
			t.Error(e, tally)
		}
	}
}
