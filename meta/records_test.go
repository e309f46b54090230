package meta

import (
	"encoding/binary"
	"math"
	"math/rand"
	"reflect"
	"regexp"
	"slices"
	"strconv"
	"strings"
	"testing"

	"stowage/api"
)

const greatest = 1000000000000000000 - 1

// record lays the fields behind each other, each with its length ahead.
func record(fields ...string) string {
	var b []byte
	for _, field := range fields {
		b = binary.BigEndian.AppendUint32(b, uint32(len(field)))
		b = append(b, field...)
	}
	return string(b)
}

// fieldsOf is what a record is held against: the chapter's order is that of package api, so a value is gone through as it lies there.
func fieldsOf(v any) []string {
	return flat(reflect.ValueOf(v))
}

func flat(v reflect.Value) []string {
	var fields []string
	switch v.Kind() {
	case reflect.String:
		return []string{v.String()}
	case reflect.Int:
		return []string{strconv.FormatInt(v.Int(), 10)}
	case reflect.Bool:
		return []string{map[bool]string{false: "0", true: "1"}[v.Bool()]}
	case reflect.Slice:
		fields = []string{strconv.Itoa(v.Len())}
		for i := range v.Len() {
			fields = append(fields, flat(v.Index(i))...)
		}
	case reflect.Struct:
		for i := range v.NumField() {
			fields = append(fields, flat(v.Field(i))...)
		}
	}
	return fields
}

// leaves calls f with each text, number, and yes or no of v, in order; with each list too, ahead of its items.
func leaves(v reflect.Value, f func(v reflect.Value)) {
	switch v.Kind() {
	case reflect.Struct:
		for i := range v.NumField() {
			leaves(v.Field(i), f)
		}
	case reflect.Slice:
		f(v)
		for i := range v.Len() {
			leaves(v.Index(i), f)
		}
	default:
		f(v)
	}
}

// words are texts that a field may be; records know nothing of what may be a name.
var words = []string{"", "a", "0", "1", "-1", "2", "abc", "x/y", "\x00", "\x00\x00\x00\x01", "\xff\xfe", "é€", "a\nb", "k", strings.Repeat("long ", 60)}

// fill makes a value of v by chance; lists have up to most items.
func fill(r *rand.Rand, v reflect.Value, most int) {
	switch v.Kind() {
	case reflect.String:
		v.SetString(words[r.Intn(len(words))])
	case reflect.Int:
		v.SetInt([]int64{0, 1, 9, 10, r.Int63n(greatest + 1), greatest - 1, greatest}[r.Intn(7)])
	case reflect.Bool:
		v.SetBool(r.Intn(2) == 1)
	case reflect.Slice:
		if n := r.Intn(most + 1); n > 0 {
			v.Set(reflect.MakeSlice(v.Type(), n, n))
		}
		for i := range v.Len() {
			fill(r, v.Index(i), most)
		}
	case reflect.Struct:
		for i := range v.NumField() {
			fill(r, v.Field(i), most)
		}
	}
}

// kind is a kind of records, with its values as pointers.
type kind struct {
	name, layout string
	make         func() any
	samples      []any
	pack         func(v any) string
	unpack       func(s string) (any, bool)
}

func kindOf[T any](name, layout string, pack func(T) string, unpack func(string) (T, bool), samples ...T) kind {
	k := kind{name: name, layout: layout, make: func() any { return new(T) }, pack: func(v any) string { return pack(*v.(*T)) }}
	k.unpack = func(s string) (any, bool) {
		v, ok := unpack(s)
		return &v, ok
	}
	for _, v := range samples {
		k.samples = append(k.samples, &v)
	}
	return k
}

// kinds are the four kinds with samples, whose lists have no item, one, and several. A layout tells a record's fields by a letter each: t is a text, n a number, b yes or no, T a list of texts, H a list of headers or tags, R a list of rules.
func kinds() []kind {
	rules := []api.Rule{
		{Origins: []string{"*"}, Methods: []string{"GET", "PUT"}, Expose: []string{"x"}, Age: 9},
		{},
		{Origins: []string{"http://a", "https://*.b"}, Methods: []string{"GET"}, Allow: []string{"*", "x-a", ""}, Age: greatest},
	}
	headers := []api.Header{{Name: "x-amz-meta-a", Value: "b"}, {}, {Name: "1", Value: "0"}}
	tags := []api.Tag{{Key: "c"}, {Key: "k", Value: "v"}, {Value: "\x00"}}
	return []kind{
		kindOf("bucket", "tnnRH", PackBucket, UnpackBucket,
			api.Bucket{},
			api.Bucket{Name: "abc", Created: 5, Versioning: 2, Cors: rules[:1], Tags: tags[1:2]},
			api.Bucket{Name: "abc", Created: greatest, Versioning: 1, Cors: rules, Tags: tags},
			api.Bucket{Name: "0", Cors: rules[1:2]},
			api.Bucket{Tags: tags}),
		kindOf("version", "tnbbtnntHHnn", PackVersion, UnpackVersion,
			api.Version{},
			api.Version{Key: "k", Seq: 3, Null: true, ETag: "e", Size: 4, Time: 5, Type: "t", Meta: headers[:1], Tags: tags[:1], Ref: api.Ref{Start: 6, Size: 4}},
			api.Version{Key: "é/x", Seq: greatest, Marker: true, Size: 1, Time: api.Last, Meta: headers, Tags: tags, Ref: api.Ref{Start: greatest, Size: greatest}},
			api.Version{Null: true, Marker: true, Tags: tags[:2]},
			api.Version{Meta: headers[:2]}),
		kindOf("upload", "tnntHH", PackUpload, UnpackUpload,
			api.Upload{},
			api.Upload{Key: "k", Seq: 1, Time: 2, Attrs: api.Attrs{Type: "t", Meta: headers[:1], Tags: tags[:1]}},
			api.Upload{Key: "x/y", Seq: greatest, Time: greatest, Attrs: api.Attrs{Type: "text/plain", Meta: headers, Tags: tags}},
			api.Upload{Attrs: api.Attrs{Tags: tags[2:]}},
			api.Upload{Attrs: api.Attrs{Meta: headers[1:]}}),
		kindOf("part", "ntnnnn", PackPart, UnpackPart,
			api.Part{},
			api.Part{Number: 1, ETag: "e", Size: 2, Time: 3, Ref: api.Ref{Start: 4, Size: 2}},
			api.Part{Number: greatest, ETag: "0", Size: greatest, Time: greatest, Ref: api.Ref{Start: greatest, Size: greatest}}),
	}
}

var isNumber = regexp.MustCompile(`^(0|[1-9][0-9]{0,17})$`).MatchString

// behind tells the fields that stand behind those of the layout; false, if these are wrong.
func behind(layout string, fields []string) ([]string, bool) {
	for _, letter := range layout {
		if len(fields) == 0 {
			return nil, false
		}
		field := fields[0]
		fields = fields[1:]
		item, isList := map[rune]string{'T': "t", 'H': "tt", 'R': "TTTTn"}[letter]
		if letter == 'b' && field != "0" && field != "1" || (letter == 'n' || isList) && !isNumber(field) {
			return nil, false
		}
		for n, _ := strconv.Atoi(field); isList && n > 0; n-- {
			var ok bool
			if fields, ok = behind(item, fields); !ok {
				return nil, false
			}
		}
	}
	return fields, true
}

// look fails the test unless Unpack reads these fields just if they are a record of that kind, and Pack writes them again.
func (k kind) look(t testing.TB, fields []string) {
	t.Helper()
	rest, fits := behind(k.layout, fields)
	k.lookAt(t, record(fields...), fits && len(rest) == 0)
}

func (k kind) lookAt(t testing.TB, s string, is bool) {
	t.Helper()
	v, ok := k.unpack(s)
	if ok != is {
		t.Fatalf("%s %q: %v %v", k.name, s, v, ok)
	}
	if !ok && !reflect.ValueOf(v).Elem().IsZero() {
		t.Fatalf("%s %q: %v beside false", k.name, s, v)
	}
	if ok && (k.pack(v) != s || record(flat(reflect.ValueOf(v).Elem())...) != s) {
		t.Fatalf("%s %q: %v", k.name, s, v)
	}
}

// 12.3

func TestRecordsByteForByte(t *testing.T) {
	for _, c := range []struct{ got, want string }{
		{PackPart(api.Part{Number: 1, ETag: "e", Size: 2, Time: 30, Ref: api.Ref{Start: 4, Size: 2}}),
			"\x00\x00\x00\x011\x00\x00\x00\x01e\x00\x00\x00\x012\x00\x00\x00\x0230\x00\x00\x00\x014\x00\x00\x00\x012"},
		{PackPart(api.Part{}), record("0", "", "0", "0", "0", "0")},
		{PackUpload(api.Upload{}), record("", "0", "0", "", "0", "0")},
		{PackUpload(api.Upload{Key: "k", Seq: 1, Time: 2, Attrs: api.Attrs{Type: "t", Meta: []api.Header{{Name: "a", Value: "b"}}, Tags: []api.Tag{{Key: "c", Value: "d"}, {Key: "e"}}}}),
			record("k", "1", "2", "t", "1", "a", "b", "2", "c", "d", "e", "")},
		{PackVersion(api.Version{}), record("", "0", "0", "0", "", "0", "0", "", "0", "0", "0", "0")},
		{PackVersion(api.Version{Key: "k", Seq: 3, Null: true, ETag: "e", Size: 4, Time: 5, Type: "t", Meta: []api.Header{{Name: "a", Value: "b"}, {Name: "f", Value: "g"}}, Tags: []api.Tag{{Key: "c"}}, Ref: api.Ref{Start: 6, Size: 7}}),
			record("k", "3", "1", "0", "e", "4", "5", "t", "2", "a", "b", "f", "g", "1", "c", "", "6", "7")},
		{PackVersion(api.Version{Marker: true}), record("", "0", "0", "1", "", "0", "0", "", "0", "0", "0", "0")},
		{PackBucket(api.Bucket{}), record("", "0", "0", "0", "0")},
		{PackBucket(api.Bucket{Name: "abc", Created: 5, Versioning: 2, Cors: []api.Rule{{Origins: []string{"*"}, Methods: []string{"GET", "PUT"}, Expose: []string{"x"}, Age: 9}, {}}, Tags: []api.Tag{{Key: "k", Value: "v"}}}),
			record("abc", "5", "2", "2", "1", "*", "2", "GET", "PUT", "0", "1", "x", "9", "0", "0", "0", "0", "0", "1", "k", "v")},
		{PackBucket(api.Bucket{Cors: []api.Rule{{Allow: []string{"y", "z"}}}}), record("", "0", "0", "1", "0", "0", "2", "y", "z", "0", "0", "0")},
		{PackBucket(api.Bucket{Cors: []api.Rule{}, Tags: []api.Tag{}}), record("", "0", "0", "0", "0")},
		{PackBucket(api.Bucket{Cors: []api.Rule{{Origins: []string{}, Expose: []string{""}}}}), record("", "0", "0", "1", "0", "0", "0", "1", "", "0", "0")},
		{PackPart(api.Part{Number: -1, Size: math.MinInt, Time: math.MaxInt, Ref: api.Ref{Start: greatest, Size: greatest + 1}}),
			record("-1", "", "-9223372036854775808", "9223372036854775807", "999999999999999999", "1000000000000000000")},
	} {
		if c.got != c.want {
			t.Errorf("%q instead of %q", c.got, c.want)
		}
	}
}

func TestRecordsOfSamples(t *testing.T) {
	for _, k := range kinds() {
		for _, v := range k.samples {
			fields := flat(reflect.ValueOf(v).Elem())
			if s := k.pack(v); s != record(fields...) {
				t.Errorf("%s %v: %q", k.name, v, s)
			}
			if rest, ok := behind(k.layout, fields); !ok || len(rest) > 0 {
				t.Errorf("%s %v: the layout is not its own", k.name, v)
			}
			k.look(t, fields)
		}
	}
}

// wrongNumbers are texts that are no numbers from 0 to 10^18 - 1 as enc.Text writes them.
var wrongNumbers = []string{
	"", "00", "01", "007", "-0", "-1", "+1", " 1", "1 ", "1\n", "\n1", "0x1", "1e3", "1.0", "1_0", "a", "1a", "\x00", "\x01", "٣", "-", "1\x00",
	"1000000000000000000", "9999999999999999999", "9223372036854775807", "9223372036854775808", "-9223372036854775808", "18446744073709551615", "18446744073709551616", "18446744073709551617",
	strings.Repeat("1", 1000), strings.Repeat("0", 18), "000000000000000001",
}

// wrongFlags are texts that are neither yes nor no.
var wrongFlags = []string{"", "2", "00", "01", "10", "11", "-1", "+1", " 1", "1 ", "true", "false", "yes", "no", "t", "\x00", "\x01", "١", "9"}

func TestUnpackOfWrongFields(t *testing.T) {
	replacements := slices.Concat(wrongNumbers, wrongFlags, words, []string{"3", "4", "5", "7", "100", "4294967296", "4294967297", "999999999999999999", "999999999999999998"})
	for _, k := range kinds() {
		for _, v := range k.samples {
			fields := flat(reflect.ValueOf(v).Elem())
			for i := range len(fields) + 1 {
				k.look(t, fields[:i])
				k.look(t, fields[i:])
				for _, field := range replacements {
					k.look(t, slices.Insert(slices.Clone(fields), i, field))
					if i < len(fields) {
						k.look(t, slices.Replace(slices.Clone(fields), i, i+1, field))
					}
				}
				if i < len(fields) {
					k.look(t, slices.Delete(slices.Clone(fields), i, i+1))
				}
				for j := range i {
					swapped := slices.Clone(fields)
					if i < len(fields) {
						swapped[i], swapped[j] = swapped[j], swapped[i]
						k.look(t, swapped)
					}
					k.look(t, slices.Delete(slices.Clone(fields), j, i))
				}
			}
		}
	}
}

// TestUnpackOfWrongNumbers says of each letter of a layout what may not stand there, asking no other reader.
func TestUnpackOfWrongNumbers(t *testing.T) {
	for _, k := range kinds() {
		plain := flat(reflect.ValueOf(k.make()).Elem())
		for i, letter := range k.layout {
			wrong := map[rune][]string{'n': wrongNumbers, 'b': wrongFlags, 'H': slices.Concat(wrongNumbers, []string{"1", "2", "999999999999999999"}), 'R': slices.Concat(wrongNumbers, []string{"1", "2", "999999999999999999"})}[letter]
			for _, field := range wrong {
				k.lookAt(t, record(slices.Replace(slices.Clone(plain), i, i+1, field)...), false)
			}
		}
	}
}

func TestUnpackOfWrongRecords(t *testing.T) {
	for _, k := range kinds() {
		for _, v := range k.samples {
			s := k.pack(v)
			k.lookAt(t, s, true)
			for _, wrong := range []string{
				s + record(""), s + record("0"), record("") + s, record("0") + s, s + s, s + "\x00", s + "x", "\x00" + s, s[1:], s[:len(s)-1], s[4:], "x", "\x00", "\x00\x00\x00", "\x00\x00\x00\x00",
				"\xff\xff\xff\xff", "\x00\x00\x00\x01",
			} {
				k.lookAt(t, wrong, false)
			}
		}
		k.lookAt(t, "", false)
		k.lookAt(t, record(make([]string, 100)...), false)
	}
}

// TestUnpackOfOtherKinds: the kinds' records are unlike each other only by chance, and Unpack reads whatever fits.
func TestUnpackOfOtherKinds(t *testing.T) {
	for _, k := range kinds() {
		for _, other := range kinds() {
			for _, v := range other.samples {
				k.look(t, flat(reflect.ValueOf(v).Elem()))
			}
		}
	}
}

func TestUnpackOfWrongCounts(t *testing.T) {
	for _, c := range []struct {
		k      kind
		fields string
	}{
		{kinds()[0], "abc 5 2 2 0 0 0 0 0 0"},
		{kinds()[0], "abc 5 2 1 0 0 0 0 0 1 k"},
		{kinds()[0], "abc 5 2 1 1 0 0 0 0 0"},
		{kinds()[0], "abc 5 2 1 0 0 0 0 0 0 0"},
		{kinds()[0], "abc 5 2 0 1 k v k"},
		{kinds()[0], "abc 5 2 0 2 k v k"},
		{kinds()[0], "abc 5 2 -1 0"},
		{kinds()[0], "abc 5 2 0 -1"},
		{kinds()[0], "abc 5 2 1 -1 0 0 0 0 0"},
		{kinds()[0], "abc 5 2 1 0 999999999999999999 a b c 0 0 0 0"},
		{kinds()[0], "abc 5 2 999999999999999999 0 0 0 0 0 0"},
		{kinds()[0], "abc 5 2 0 999999999999999999 a b"},
		{kinds()[1], "k 1 0 0 e 1 1 t 999999999999999999 a b"},
		{kinds()[1], "k 1 0 0 e 1 1 t 1 a b 1 c d 6"},
		{kinds()[1], "k 1 0 0 e 1 1 t 1 a b 0 c d 6 4"},
		{kinds()[1], "k 1 0 0 e 1 1 t 2 a b 1 c d 6 4"},
		{kinds()[1], "k 1 0 0 e 1 1 t 0 a b 1 c d 6 4"},
		{kinds()[2], "k 1 2 t 0 1 a"},
		{kinds()[2], "k 1 2 t 1 a 0"},
		{kinds()[2], "k 1 2 t 0 0 0"},
		{kinds()[2], "k 1 2 t 0"},
		{kinds()[2], "k 1 2 t 0 999999999999999999 a b"},
		{kinds()[3], "1 e 2 3 4"},
		{kinds()[3], "1 e 2 3 4 2 0"},
		{kinds()[3], "1 e 2 3 4 -2"},
		{kinds()[3], "-1 e 2 3 4 2"},
	} {
		c.k.lookAt(t, record(strings.Fields(c.fields)...), false)
	}
}

func TestNumbersThatAreNotReadBack(t *testing.T) {
	for _, k := range kinds() {
		for _, v := range k.samples {
			leaves(reflect.ValueOf(v).Elem(), func(leaf reflect.Value) {
				if leaf.Kind() != reflect.Int {
					return
				}
				was := leaf.Int()
				for _, n := range []int64{-1, -2, math.MinInt64, math.MinInt32, -greatest, greatest + 1, greatest + 2, math.MaxInt64} {
					leaf.SetInt(n)
					s := k.pack(v)
					if s != record(flat(reflect.ValueOf(v).Elem())...) {
						t.Fatalf("%s %v: %q", k.name, v, s)
					}
					k.lookAt(t, s, false)
				}
				leaf.SetInt(was)
			})
		}
	}
}

func TestUnpackOfChangedBytes(t *testing.T) {
	for _, k := range kinds() {
		for _, v := range k.samples {
			if s := k.pack(v); len(s) < 200 {
				changes(s, "\x00\x01\x02\x03019-\xffa", func(s string) { k.lookBytes(t, s) })
			}
		}
	}
}

// lookBytes is look for bytes that need not be a list of fields at all.
func (k kind) lookBytes(t testing.TB, s string) {
	t.Helper()
	var fields []string
	for rest := s; len(rest) > 0; {
		if len(rest) < 4 || uint64(binary.BigEndian.Uint32([]byte(rest[:4]))) > uint64(len(rest)-4) {
			k.lookAt(t, s, false)
			return
		}
		n := 4 + int(binary.BigEndian.Uint32([]byte(rest[:4])))
		fields = append(fields, rest[4:n])
		rest = rest[n:]
	}
	k.look(t, fields)
}

// 12.5

func TestRecordsThereAndBack(t *testing.T) {
	r := rand.New(rand.NewSource(12))
	for _, k := range kinds() {
		for i := range 4000 {
			v := k.make()
			fill(r, reflect.ValueOf(v).Elem(), i%5)
			s := k.pack(v)
			x, ok := k.unpack(s)
			if !ok || !slices.Equal(flat(reflect.ValueOf(x).Elem()), flat(reflect.ValueOf(v).Elem())) {
				t.Fatalf("%s %v: %v %v", k.name, v, x, ok)
			}
			if want := record(flat(reflect.ValueOf(v).Elem())...); s != want {
				t.Fatalf("%s %v: %q instead of %q", k.name, v, s, want)
			}
		}
	}
}

func TestLongRecordsThereAndBack(t *testing.T) {
	const n = 30000
	b := api.Bucket{Cors: make([]api.Rule, n), Tags: make([]api.Tag, n)}
	v := api.Version{Key: strings.Repeat("k", 70000), Meta: make([]api.Header, n)}
	for i := range n {
		b.Cors[i] = api.Rule{Origins: []string{strconv.Itoa(i)}, Age: i}
		b.Tags[i].Key = strconv.Itoa(i)
		v.Meta[i].Value = strconv.Itoa(-i)
	}
	if x, ok := UnpackBucket(PackBucket(b)); !ok || !slices.Equal(fieldsOf(x), fieldsOf(b)) {
		t.Error("bucket")
	}
	if x, ok := UnpackVersion(PackVersion(v)); !ok || !slices.Equal(fieldsOf(x), fieldsOf(v)) {
		t.Error("version")
	}
}

func TestNoTwoHaveOneRecord(t *testing.T) {
	r := rand.New(rand.NewSource(5))
	for _, k := range kinds() {
		seen := map[string][]string{}
		for range 3000 {
			v := k.make()
			fill(r, reflect.ValueOf(v).Elem(), 2)
			fields := flat(reflect.ValueOf(v).Elem())
			s := k.pack(v)
			if other, ok := seen[s]; ok && !slices.Equal(other, fields) {
				t.Fatalf("%s %q %q: %q", k.name, fields, other, s)
			}
			seen[s] = fields
		}
	}
}

// TestRecordsFit: what may be told beside data makes no record that is longer than the map takes.
func TestRecordsFit(t *testing.T) {
	v := api.Version{Key: strings.Repeat("k", 1024), Seq: greatest, ETag: strings.Repeat("e", 40), Size: greatest, Time: api.Last, Type: strings.Repeat("t", 8192), Ref: api.Ref{Start: greatest, Size: greatest}}
	for range 100 {
		v.Meta = append(v.Meta, api.Header{Name: strings.Repeat("n", 10), Value: strings.Repeat("v", 10)})
	}
	for range api.MaxTags {
		v.Tags = append(v.Tags, api.Tag{Key: strings.Repeat("é", 128), Value: strings.Repeat("é", 256)})
	}
	if s := PackVersion(v); len(s) > api.MaxValue {
		t.Error(len(s))
	}
}

// 12.6

// TestHostileRecords holds what is answered against nothing: a panic or a call without end breaks it.
func TestHostileRecords(t *testing.T) {
	var hostile []string
	for _, field := range []string{"", "0", "1", "2", "9", "999999999999999999", "-1"} {
		for n := range 40 {
			fields := slices.Repeat([]string{field}, n)
			hostile = append(hostile, record(fields...), record(append([]string{"", "0", "0"}, fields...)...), record(append(fields, strings.Repeat("9", 18), strings.Repeat("9", 18))...))
		}
		hostile = append(hostile, record(slices.Repeat([]string{field}, 1<<15)...))
	}
	for c := range 256 {
		for _, n := range []int{1, 2, 3, 4, 5, 8, 16, 100, 1 << 12} {
			hostile = append(hostile, strings.Repeat(string([]byte{byte(c)}), n))
		}
	}
	for _, k := range kinds() {
		for _, s := range hostile {
			if v, ok := k.unpack(s); ok && k.pack(v) != s || !ok && !reflect.ValueOf(v).Elem().IsZero() {
				t.Fatalf("%s %q: %v", k.name, s, v)
			}
		}
	}
}

// spoil overwrites each list of v and the spare room behind it.
func spoil(v reflect.Value) {
	leaves(v, func(leaf reflect.Value) {
		if leaf.Kind() != reflect.Slice || leaf.Cap() == 0 {
			return
		}
		whole := leaf.Slice(0, leaf.Cap())
		for i := range whole.Len() {
			leaves(whole.Index(i), func(leaf reflect.Value) {
				switch leaf.Kind() {
				case reflect.String:
					leaf.SetString("!")
				case reflect.Int:
					leaf.SetInt(-7)
				}
			})
		}
	})
}

func TestListsAreNewMemory(t *testing.T) {
	for _, k := range kinds() {
		for _, v := range k.samples {
			s := k.pack(v)
			first, _ := k.unpack(s)
			second, _ := k.unpack(s)
			spoil(reflect.ValueOf(first).Elem())
			third, ok := k.unpack(s)
			if !ok || k.pack(second) != s || k.pack(third) != s || k.pack(v) != s {
				t.Errorf("%s %v", k.name, v)
			}
		}
	}
}

// TestListsOfOneAnswerShareNothing fills each list of an answer, and the spare room behind it, with others alike: no other list may change by that.
func TestListsOfOneAnswerShareNothing(t *testing.T) {
	for _, k := range kinds() {
		for _, v := range k.samples {
			s := k.pack(v)
			lists := 0
			leaves(reflect.ValueOf(v).Elem(), func(leaf reflect.Value) {
				if leaf.Kind() == reflect.Slice {
					lists++
				}
			})
			for chosen := range lists {
				x, _ := k.unpack(s)
				at := 0
				leaves(reflect.ValueOf(x).Elem(), func(leaf reflect.Value) {
					if leaf.Kind() != reflect.Slice {
						return
					}
					if at == chosen && leaf.Cap() > leaf.Len() {
						spare := leaf.Slice(leaf.Len(), leaf.Cap())
						for i := range spare.Len() {
							fill(rand.New(rand.NewSource(1)), spare.Index(i), 2)
						}
					}
					at++
				})
				if k.pack(x) != s {
					t.Errorf("%s %v: list %d", k.name, v, chosen)
				}
			}
		}
	}
}

func TestRecordsLeaveArgumentsAlone(t *testing.T) {
	rules := []api.Rule{{Origins: []string{"a", "b", "spare"}[:2]}, {Age: 1}, {Age: 77}}
	tags := []api.Tag{{Key: "k", Value: "v"}, {Key: "spare"}}
	headers := []api.Header{{Name: "n", Value: "v"}, {Name: "spare"}}
	PackBucket(api.Bucket{Cors: rules[:2], Tags: tags[:1]})
	PackVersion(api.Version{Meta: headers[:1], Tags: tags[:1]})
	PackUpload(api.Upload{Attrs: api.Attrs{Meta: headers[:1], Tags: tags[:1]}})
	if !slices.Equal(fieldsOf(rules), []string{"3", "2", "a", "b", "0", "0", "0", "0", "0", "0", "0", "0", "1", "0", "0", "0", "0", "77"}) || rules[0].Origins[:3][2] != "spare" {
		t.Error(rules)
	}
	if !slices.Equal(fieldsOf(tags), []string{"2", "k", "v", "spare", ""}) || !slices.Equal(fieldsOf(headers), []string{"2", "n", "v", "spare", ""}) {
		t.Error(tags, headers)
	}
}
