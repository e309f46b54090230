package meta

import (
	"cmp"
	"encoding/binary"
	"encoding/hex"
	"fmt"
	"math"
	"slices"
	"strconv"
	"strings"
	"testing"

	"stowage/api"
	"stowage/chars"
)

// seqs are numbers from 0 on, rising.
var seqs = []int{0, 1, 2, 7, 127, 128, 255, 256, 257, 65535, 65536, 1<<31 - 1, 1 << 31, 1<<32 - 1, 1 << 32, 0x0102030405060708, 1<<62 - 1, 1 << 62, math.MaxInt - 1, math.MaxInt}

// below are numbers that are written as 0.
var below = []int{-1, -2, -255, -256, math.MinInt32, -1 << 62, -math.MaxInt, math.MinInt}

// buckets are names that may be, rising.
var buckets = []string{"a-b", "a.b", "abc", "abc-d", "abc.d", "abc0", "abcd", strings.Repeat("z", 63)}

// noBuckets are names that may not be.
var noBuckets = []string{"", "a", "ab", "aBc", "ABC", "a..b", "-ab", "ab-", ".ab", "ab.", "a_b", "a b", "192.168.5.4", "a/b", "abé", "abc\x01", strings.Repeat("z", 64)}

// keys are keys that may be, rising.
var keys = []string{"\x01", "\x01\x01", " ", "!", "/", "0", "B", "O", "a", "a\x01", "a!", "a/", "a/b", "aa", "x/y", strings.Repeat("y", 1023), strings.Repeat("y", 1024), "\x7f", "é", "€", "\uFFFD", "\U0001F600"}

// noKeys are keys that may not be.
var noKeys = []string{"", "\xff", "\xc0\x80", "\xed\xa0\x80", "a\x80", "\xe2\x82", strings.Repeat("y", 1025), strings.Repeat("é", 513)}

// eight tells n in eight bytes; it is asked of numbers from 0 on alone.
func eight(n int) string {
	return string(binary.BigEndian.AppendUint64(nil, uint64(n)))
}

// named calls f with the two kinds of keys that have a bucket and a key, and with what tells and reads them.
func named(f func(kind string, tell func(bucket, key string, seq int) string, parse func(k string) (string, string, int, bool))) {
	f("O", ObjectKey, ParseObject)
	f("U", UploadKey, ParseUpload)
}

// 12.1

func TestBucketKey(t *testing.T) {
	for _, bucket := range slices.Concat(buckets, noBuckets, keys, noKeys) {
		if k := BucketKey(bucket); k != "B"+bucket {
			t.Errorf("%q: %q", bucket, k)
		}
	}
}

func TestKeysByteForByte(t *testing.T) {
	for _, c := range []struct{ got, want string }{
		{BucketKey("abc"), "42616263"},
		{ObjectKey("abc", "x/y", 7), "4f61626300782f79007ffffffffffffff8"},
		{ObjectKey("abc", "k", 0), "4f616263006b007fffffffffffffff"},
		{ObjectKey("abc", "k", -1), "4f616263006b007fffffffffffffff"},
		{ObjectKey("abc", "k", math.MinInt), "4f616263006b007fffffffffffffff"},
		{ObjectKey("abc", "k", math.MaxInt), "4f616263006b000000000000000000"},
		{UploadKey("abc", "x/y", 7), "5561626300782f79000000000000000007"},
		{UploadKey("abc", "k", 0), "55616263006b000000000000000000"},
		{UploadKey("abc", "k", -1), "55616263006b000000000000000000"},
		{UploadKey("abc", "k", math.MaxInt), "55616263006b007fffffffffffffff"},
		{PartKey(1, 2), "5000000000000000010000000000000002"},
		{PartKey(0, 0), "5000000000000000000000000000000000"},
		{PartKey(-1, math.MinInt), "5000000000000000000000000000000000"},
		{PartKey(-1, 3), "5000000000000000000000000000000003"},
		{PartKey(3, -1), "5000000000000000030000000000000000"},
		{PartKey(math.MaxInt, 10000), "507fffffffffffffff0000000000002710"},
		{PartKey(5, math.MaxInt), "5000000000000000057fffffffffffffff"},
		{ObjectKey("", "", 1), "4f00007ffffffffffffffe"},
		{UploadKey("", "a\x00b", 1), "550061006200" + "0000000000000001"},
	} {
		if got := hex.EncodeToString([]byte(c.got)); got != c.want {
			t.Error(got, c.want)
		}
	}
}

func TestKeysOfEachNumber(t *testing.T) {
	for _, seq := range slices.Concat(seqs, below) {
		from0 := max(seq, 0)
		if k := ObjectKey("a.b", "é", seq); k != "Oa.b\x00é\x00"+eight(math.MaxInt64-from0) {
			t.Errorf("%d: %q", seq, k)
		}
		if k := UploadKey("a.b", "é", seq); k != "Ua.b\x00é\x00"+eight(from0) {
			t.Errorf("%d: %q", seq, k)
		}
		for _, number := range slices.Concat(seqs, below) {
			if k := PartKey(seq, number); k != "P"+eight(from0)+eight(max(number, 0)) {
				t.Errorf("%d %d: %q", seq, number, k)
			}
		}
	}
}

func TestParseOfWhatTheOthersTell(t *testing.T) {
	for _, bucket := range buckets {
		if b, ok := ParseBucket(BucketKey(bucket)); b != bucket || !ok {
			t.Errorf("%q: %q %v", bucket, b, ok)
		}
		named(func(kind string, tell func(string, string, int) string, parse func(string) (string, string, int, bool)) {
			for _, key := range keys {
				for _, seq := range slices.Concat(seqs, below) {
					if b, k, n, ok := parse(tell(bucket, key, seq)); b != bucket || k != key || n != max(seq, 0) || !ok {
						t.Fatalf("%s %q %q %d: %q %q %d %v", kind, bucket, key, seq, b, k, n, ok)
					}
				}
			}
		})
	}
	for _, seq := range slices.Concat(seqs, below) {
		for _, number := range slices.Concat(seqs, below) {
			if s, n, ok := ParsePart(PartKey(seq, number)); s != max(seq, 0) || n != max(number, 0) || !ok {
				t.Fatal(seq, number, s, n, ok)
			}
		}
	}
}

// noneTells fails the test unless no Parse.. reads k.
func noneTells(t testing.TB, k string) {
	t.Helper()
	if b, ok := ParseBucket(k); b != "" || ok {
		t.Errorf("bucket %q: %q %v", k, b, ok)
	}
	if b, key, n, ok := ParseObject(k); b != "" || key != "" || n != 0 || ok {
		t.Errorf("object %q: %q %q %d %v", k, b, key, n, ok)
	}
	if b, key, n, ok := ParseUpload(k); b != "" || key != "" || n != 0 || ok {
		t.Errorf("upload %q: %q %q %d %v", k, b, key, n, ok)
	}
	if s, n, ok := ParsePart(k); s != 0 || n != 0 || ok {
		t.Errorf("part %q: %d %d %v", k, s, n, ok)
	}
}

func TestParseOfNamesThatMayNotBe(t *testing.T) {
	for _, bucket := range noBuckets {
		noneTells(t, BucketKey(bucket))
		for _, key := range slices.Concat(keys, noKeys) {
			noneTells(t, ObjectKey(bucket, key, 7))
			noneTells(t, UploadKey(bucket, key, 7))
		}
	}
	for _, bucket := range buckets {
		for _, key := range noKeys {
			noneTells(t, ObjectKey(bucket, key, 7))
			noneTells(t, UploadKey(bucket, key, 7))
		}
		for _, key := range []string{"\x00", "\x00a", "a\x00", "a\x00b"} {
			noneTells(t, ObjectKey(bucket, key, 7))
			noneTells(t, UploadKey(bucket, key, 7))
		}
		for _, more := range []string{"\x00", " ", "/", "\x00a", "\x00k\x0012345678", "_", "A"} {
			noneTells(t, BucketKey(bucket+more))
		}
	}
}

func TestParseOfWrongTexts(t *testing.T) {
	for _, k := range []string{
		"", "B", "O", "U", "P", "abc", "babc", "Xabc", "Cabc", " Babc", "\x00Babc", "\uFEFFBabc", "Babc\n",
		"Oabc", "Oabc\x00", "Oabc\x00k", "Oabc\x00k\x00", "Oabc\x00\x00", "O\x00\x00", "O\x00\x0012345678", "Oabc\x00k12345678", "Oabck\x0012345678", "Oabck12345678",
		"Oabc\x00k\x001234567", "Oabc\x00k\x00123456789", "Oabc\x00k\x00\x0012345678", "Oabc\x00\x00k\x0012345678", "O\x00abc\x00k\x0012345678", "Oabc\x00k\x00l\x0012345678",
		"oabc\x00k\x0012345678", "Xabc\x00k\x0012345678", "abc\x00k\x0012345678", "OOabc\x00k\x0012345678", "Oabc\x01k\x0112345678", "Oabc k 12345678",
		"Uabc\x00k\x00\x00\x00\x00\x00\x00\x00\x00", "Uabc\x00k\x00\x00\x00\x00\x00\x00\x00\x00\x00\x00", "Uabc\x00\x00\x00\x00\x00\x00\x00\x00\x00\x00",
		"Uabc\x00\x00\x00\x00\x00\x00\x00\x00\x00", "Uabc\x00k\x00\x80\x00\x00\x00\x00\x00\x00\x00", "Uabc\x00k\x00\xff\xff\xff\xff\xff\xff\xff\xff",
		"Oabc\x00k\x00\x80\x00\x00\x00\x00\x00\x00\x00", "Oabc\x00k\x00\xff\xff\xff\xff\xff\xff\xff\xff", "Oabc\x00k\x00\x80\x00\x00\x00\x00\x00\x00\x01",
		"P1234567812345", "P123456781234567", "P12345678", "P123456781234567\x00\x00", "P12345678\x0012345678", "p1234567812345678", "1234567812345678", "PP1234567812345678",
		"P\x80\x00\x00\x00\x00\x00\x00\x0012345678", "P12345678\x80\x00\x00\x00\x00\x00\x00\x00", "P\xff\xff\xff\xff\xff\xff\xff\xff\xff\xff\xff\xff\xff\xff\xff\xff",
	} {
		noneTells(t, k)
	}
	for n := range 40 {
		for _, c := range []string{"\x00", "P", "O", "U", "B", "\x7f"} {
			k := "P" + strings.Repeat(c, n)
			s, number, ok := ParsePart(k)
			if ok != (n == 16) || !ok && (s != 0 || number != 0) || ok && PartKey(s, number) != k {
				t.Errorf("%q: %d %d %v", k, s, number, ok)
			}
		}
	}
}

// TestParseReadsItsOwnKindAlone hands every kind of key to every Parse.., with each first byte.
func TestParseReadsItsOwnKindAlone(t *testing.T) {
	for c := range 256 {
		first := string([]byte{byte(c)})
		for i, k := range []string{first + "abc", first + "abc\x00k\x0012345678", first + "1234567812345678"} {
			_, bucket := ParseBucket(k)
			_, _, _, object := ParseObject(k)
			_, _, _, upload := ParseUpload(k)
			_, _, part := ParsePart(k)
			// Sixteen digits are a bucket's name as well.
			if bucket != (first == "B" && i != 1) || object != (first == "O" && i == 1) || upload != (first == "U" && i == 1) || part != (first == "P" && i == 2) {
				t.Errorf("%q: %v %v %v %v", k, bucket, object, upload, part)
			}
		}
	}
}

// search calls f with all of which k is told, found by trying every place for the first separator.
func search(kind, k string, f func(bucket, key string, n uint64)) {
	second := len(k) - 9
	for first := 1; first < second; first++ {
		if k[:1] != kind || k[first] != 0 || k[second] != 0 {
			continue
		}
		n := binary.BigEndian.Uint64([]byte(k[second+1:]))
		if chars.Bucket(k[1:first]) && chars.Key(k[first+1:second]) && n < 1<<63 {
			f(k[1:first], k[first+1:second], n)
		}
	}
}

// changes calls f with each text that one change makes of s: a byte less, a byte more, another byte, a piece cut off.
func changes(s string, over string, f func(s string)) {
	for i := range len(s) + 1 {
		f(s[:i])
		f(s[i:])
		for j := range len(over) {
			f(s[:i] + over[j:j+1] + s[i:])
			if i < len(s) {
				f(s[:i] + over[j:j+1] + s[i+1:])
			}
		}
		if i < len(s) {
			f(s[:i] + s[i+1:])
		}
	}
}

func TestParseOfChangedKeys(t *testing.T) {
	const over = "\x00\x01\x7f\x80\xff.-AaBOUP0\xc3"
	named(func(kind string, tell func(string, string, int) string, parse func(string) (string, string, int, bool)) {
		look := func(k string) {
			bucket, key, seq, ok := parse(k)
			found := 0
			search(kind, k, func(b, y string, n uint64) {
				found++
				if kind == "O" {
					n = math.MaxInt64 - n
				}
				if b != bucket || y != key || int(n) != seq {
					t.Fatalf("%q: %q %q %d", k, bucket, key, seq)
				}
			})
			if ok != (found == 1) || found > 1 || !ok && (bucket != "" || key != "" || seq != 0) || ok && tell(bucket, key, seq) != k {
				t.Fatalf("%q: %q %q %d %v, found %d", k, bucket, key, seq, ok, found)
			}
		}
		for _, seq := range []int{0, 1, 255, 0x0102030405060708, math.MaxInt} {
			for _, key := range []string{"k", "é", "x/y"} {
				changes(tell("abc", key, seq), over, func(k string) {
					look(k)
					changes(k, "\x00a\xff", look)
				})
			}
		}
	})
}

func TestParsePartOfChangedKeys(t *testing.T) {
	look := func(k string) {
		seq, number, ok := ParsePart(k)
		is := len(k) == 17 && k[0] == 'P' && k[1] < 0x80 && k[9] < 0x80
		if ok != is || !ok && (seq != 0 || number != 0) || ok && (PartKey(seq, number) != k || seq < 0 || number < 0) {
			t.Fatalf("%q: %d %d %v", k, seq, number, ok)
		}
	}
	for _, k := range []string{PartKey(0, 0), PartKey(1, 2), PartKey(math.MaxInt, math.MaxInt), PartKey(0x0102030405060708, 10000)} {
		changes(k, "\x00\x7f\x80\xffPa", func(k string) {
			look(k)
			changes(k, "\x00\x80P", look)
		})
	}
}

func TestParseBucketOfChangedKeys(t *testing.T) {
	for _, bucket := range buckets {
		changes(BucketKey(bucket), "\x00B.-a0A", func(k string) {
			b, ok := ParseBucket(k)
			is := len(k) > 0 && k[0] == 'B' && chars.Bucket(k[1:])
			if ok != is || ok && "B"+b != k || !ok && b != "" {
				t.Fatalf("%q: %q %v", k, b, ok)
			}
		})
	}
}

// TestKeysFit: the longest key that may be is no longer than the map takes.
func TestKeysFit(t *testing.T) {
	if k := ObjectKey(strings.Repeat("z", 63), strings.Repeat("y", 1024), 1); len(k) > api.MaxKey {
		t.Error(len(k))
	}
}

// 12.2

func TestID(t *testing.T) {
	for seq, want := range map[int]string{
		0: "0000000000000000", 1: "0000000000000001", 255: "00000000000000ff", 0x0102030405060708: "0102030405060708", 0x1234567890ABCDEF: "1234567890abcdef",
		math.MaxInt: "7fffffffffffffff", -1: "0000000000000000", -3: "0000000000000000", math.MinInt: "0000000000000000", math.MinInt + 1: "0000000000000000",
	} {
		if s := ID(seq); s != want {
			t.Error(seq, s)
		}
	}
	for _, seq := range slices.Concat(seqs, below) {
		s := ID(seq)
		if s != fmt.Sprintf("%016x", max(seq, 0)) {
			t.Error(seq, s)
		}
		if n, ok := Seq(s); n != max(seq, 0) || !ok {
			t.Error(seq, n, ok)
		}
	}
}

func TestSeqOfNoIDs(t *testing.T) {
	for _, id := range []string{
		"", "0", "ff", "null", "00000000000000f", "000000000000000", "00000000000000000", "00000000000000ff0", "000000000000000000000000000000ff", "0000000000000000ff",
		"00000000000000FF", "00000000000000fF", "00000000000000Ff", "7FFFFFFFFFFFFFFF", "00000000000000fg", "g0000000000000ff", "-0000000000000ff", "+0000000000000ff",
		"0x000000000000ff", " 0000000000000ff", "00000000000000f ", "00000000000000f\n", "00000000000000\xc3\xa9", "0000000000000_ff", "00000000000000f\x00",
		"8000000000000000", "8000000000000001", "ffffffffffffffff", "fffffffffffffffe", "9000000000000000", "a000000000000000", "f000000000000000",
	} {
		if n, ok := Seq(id); n != 0 || ok {
			t.Errorf("%q: %d %v", id, n, ok)
		}
	}
}

func TestSeqOfChangedIDs(t *testing.T) {
	all := make([]byte, 256)
	for i := range all {
		all[i] = byte(i)
	}
	for _, id := range []string{ID(0), ID(255), ID(0x1234567890ABCDEF), ID(math.MaxInt)} {
		changes(id, string(all), func(s string) {
			want, err := strconv.ParseInt(s, 16, 64)
			is := err == nil && want >= 0 && fmt.Sprintf("%016x", want) == s
			if n, ok := Seq(s); ok != is || ok && n != int(want) || !ok && n != 0 {
				t.Fatalf("%q: %d %v", s, n, ok)
			}
		})
	}
}

// 12.4

func TestOrderOfKeys(t *testing.T) {
	type made struct {
		bucket, key string
		seq         int
	}
	var l []made
	for _, bucket := range buckets {
		for _, key := range keys {
			for _, seq := range seqs {
				l = append(l, made{bucket, key, seq})
			}
		}
	}
	named(func(kind string, tell func(string, string, int) string, parse func(string) (string, string, int, bool)) {
		var told []string
		for _, m := range l {
			told = append(told, tell(m.bucket, m.key, m.seq))
		}
		slices.Sort(told)
		slices.SortFunc(l, func(a, b made) int {
			seq := cmp.Compare(a.seq, b.seq)
			if kind == "O" {
				seq = -seq
			}
			return cmp.Or(cmp.Compare(a.bucket, b.bucket), cmp.Compare(a.key, b.key), seq)
		})
		for i, m := range l {
			if told[i] != tell(m.bucket, m.key, m.seq) {
				t.Fatalf("%s %d: %q instead of %v", kind, i, told[i], m)
			}
		}
	})
	// The tables are written down in their order, which sorting would hide.
	if !slices.IsSorted(buckets) || !slices.IsSorted(keys) || !slices.IsSorted(seqs) {
		t.Error("tables")
	}
}

func TestOrderOfFewKeys(t *testing.T) {
	for _, l := range [][]string{
		{ObjectKey("abc", "a", math.MaxInt), ObjectKey("abc", "a", 9), ObjectKey("abc", "a", 8), ObjectKey("abc", "a", 0), ObjectKey("abc", "a!", 1), ObjectKey("abc", "a/b", 1), ObjectKey("abc", "aa", 1), ObjectKey("abc-d", "A", 9), ObjectKey("abcd", "A", 9)},
		{UploadKey("abc", "a", 0), UploadKey("abc", "a", 8), UploadKey("abc", "a", 9), UploadKey("abc", "a", math.MaxInt), UploadKey("abc", "a!", 1), UploadKey("abc", "aa", 0), UploadKey("abcd", "A", 0)},
		{PartKey(1, 1), PartKey(1, 2), PartKey(1, 10000), PartKey(2, 0), PartKey(256, 0)},
		{BucketKey("abc"), BucketKey("abd"), ObjectKey("abc", "a", 1), PartKey(0, 0), UploadKey("abc", "a", 1)},
	} {
		for i := range l[1:] {
			if l[i] >= l[i+1] {
				t.Errorf("%q %q", l[i], l[i+1])
			}
		}
	}
}

func TestNoTwoHaveOneKey(t *testing.T) {
	seen := map[string]int{}
	add := func(k string) {
		if seen[k]++; seen[k] > 1 {
			t.Fatalf("%q", k)
		}
	}
	for _, bucket := range buckets {
		add(BucketKey(bucket))
		for _, key := range keys {
			for _, seq := range seqs {
				add(ObjectKey(bucket, key, seq))
				add(UploadKey(bucket, key, seq))
			}
		}
	}
	for _, seq := range seqs {
		for _, number := range seqs {
			add(PartKey(seq, number))
		}
	}
}

// 12.6

// TestHostileKeys holds what is answered against nothing: a panic or a call without end breaks it.
func TestHostileKeys(t *testing.T) {
	for c := range 256 {
		for _, n := range []int{0, 1, 2, 7, 8, 9, 10, 15, 16, 17, 18, 100, 1 << 12} {
			s := strings.Repeat(string([]byte{byte(c)}), n)
			for _, first := range []string{"", "B", "O", "U", "P", "Oabc\x00", "Uabc\x00k\x00"} {
				k := first + s
				ParseBucket(k)
				ParseObject(k)
				ParseUpload(k)
				ParsePart(k)
				Seq(k)
				BucketKey(k)
				ObjectKey(k, s, n)
				UploadKey(s, k, -n)
			}
		}
	}
}
