package cond

import (
	"bytes"
	"encoding/base64"
	"encoding/hex"
	"fmt"
	"math"
	"math/rand/v2"
	"strings"
	"testing"

	"stowage/api"
)

// 21.3

func TestExamplesOfRanges(t *testing.T) {
	for _, c := range []struct {
		value string
		want  piece
	}{
		{"bytes=0-4", piece{0, 5, true, 0}}, {"bytes=-3", piece{7, 3, true, 0}}, {"bytes=7-", piece{7, 3, true, 0}}, {"bytes=10-", piece{e: api.ErrInvalidRange}},
		{"bytes=5-2", piece{0, 10, false, 0}}, {"bytes=0-1,3-4", piece{0, 10, false, 0}}, {"x", piece{0, 10, false, 0}},
	} {
		if p := ranges(t, c.value, 10); p != c.want {
			t.Errorf("%q: %v, not %v", c.value, p, c.want)
		}
	}
}

// Each form with all numbers about the bounds, of all small sizes.
func TestEachForm(t *testing.T) {
	seen := map[piece]int{}
	for size := -3; size <= 12; size++ {
		for a := range 16 {
			seen[ranges(t, fmt.Sprintf("bytes=%d-", a), size)]++
			seen[ranges(t, fmt.Sprintf("bytes=-%d", a), size)]++
			for b := range 16 {
				seen[ranges(t, fmt.Sprintf("bytes=%d-%d", a, b), size)]++
			}
		}
	}
	// Of 12 bytes and fewer: all pieces, all sizes as a whole, and the error.
	if len(seen) != 12*13/2+13+1 {
		t.Error(len(seen))
	}
}

func TestBoundsOfRanges(t *testing.T) {
	whole := func(n int) piece { return piece{0, n, false, 0} }
	wrong := piece{e: api.ErrInvalidRange}
	for _, c := range []struct {
		value string
		size  int
		want  piece
	}{
		{"bytes=0-0", 1, piece{0, 1, true, 0}}, {"bytes=0-", 1, piece{0, 1, true, 0}}, {"bytes=-1", 1, piece{0, 1, true, 0}}, {"bytes=1-1", 1, wrong}, {"bytes=1-", 1, wrong}, {"bytes=-2", 1, piece{0, 1, true, 0}},
		{"bytes=9-9", 10, piece{9, 1, true, 0}}, {"bytes=9-10", 10, piece{9, 1, true, 0}}, {"bytes=10-10", 10, wrong}, {"bytes=10-11", 10, wrong}, {"bytes=0-9", 10, piece{0, 10, true, 0}}, {"bytes=0-10", 10, piece{0, 10, true, 0}}, {"bytes=0-99", 10, piece{0, 10, true, 0}},
		{"bytes=-9", 10, piece{1, 9, true, 0}}, {"bytes=-10", 10, piece{0, 10, true, 0}}, {"bytes=-11", 10, piece{0, 10, true, 0}}, {"bytes=-0", 10, wrong},
		// B below A is asked ahead of A beyond the end.
		{"bytes=1-0", 10, whole(10)}, {"bytes=10-9", 10, whole(10)}, {"bytes=20-12", 10, whole(10)}, {"bytes=20-5", 10, whole(10)}, {"bytes=20-20", 10, wrong}, {"bytes=1-0", 0, whole(0)}, {"bytes=999999999999999999-999999999999999998", 10, whole(10)},
		// Of nothing, and of less.
		{"bytes=0-0", 0, wrong}, {"bytes=0-", 0, wrong}, {"bytes=-1", 0, wrong}, {"bytes=-0", 0, wrong}, {"x", 0, whole(0)}, {"", 0, whole(0)}, {"bytes=0-0", -1, wrong}, {"bytes=0-", -1, wrong}, {"bytes=-1", -1, wrong}, {"bytes=-5", math.MinInt, wrong}, {"bytes=0-5", math.MinInt, wrong}, {"x", -1, whole(0)}, {"", math.MinInt, whole(0)}, {"bytes=5-2", -7, whole(0)},
		{"bytes=9-999999999999999999", 10, piece{9, 1, true, 0}}, {"bytes=-999999999999999999", 10, piece{0, 10, true, 0}}, {"bytes=999999999999999999-", 10, wrong}, {"bytes=999999999999999999-999999999999999999", 10, wrong},
	} {
		if p := ranges(t, c.value, c.size); p != c.want {
			t.Errorf("%q %d: %v, not %v", c.value, c.size, p, c.want)
		}
	}
}

func TestRangesOfTheLargestSizes(t *testing.T) {
	const most, nines = math.MaxInt, 999999999999999999
	for _, c := range []struct {
		value string
		size  int
		want  piece
	}{
		{"bytes=0-", most, piece{0, most, true, 0}}, {"bytes=1-", most, piece{1, most - 1, true, 0}}, {"bytes=0-0", most, piece{0, 1, true, 0}}, {"bytes=-1", most, piece{most - 1, 1, true, 0}}, {"bytes=0-999999999999999999", most, piece{0, nines + 1, true, 0}}, {"bytes=999999999999999999-", most, piece{nines, most - nines, true, 0}}, {"bytes=-999999999999999999", most, piece{most - nines, nines, true, 0}}, {"bytes=999999999999999999-999999999999999999", most, piece{nines, 1, true, 0}}, {"bytes=-0", most, piece{e: api.ErrInvalidRange}}, {"bytes=2-1", most, piece{0, most, false, 0}}, {"", most, piece{0, most, false, 0}},
		{"bytes=0-999999999999999999", nines, piece{0, nines, true, 0}}, {"bytes=999999999999999999-", nines, piece{e: api.ErrInvalidRange}}, {"bytes=999999999999999998-", nines, piece{nines - 1, 1, true, 0}}, {"bytes=-999999999999999999", nines, piece{0, nines, true, 0}}, {"bytes=-999999999999999999", nines - 1, piece{0, nines - 1, true, 0}},
	} {
		var p piece
		p.from, p.n, p.part, p.e = Range(c.value, c.size)
		if p != c.want {
			t.Errorf("%q %d: %v, not %v", c.value, c.size, p, c.want)
		}
	}
}

func TestOtherFormsOfRanges(t *testing.T) {
	for _, value := range []string{
		"", " ", "-", "0-1", "bytes", "bytes=", "bytes=-", "bytes=--", "bytes=0", "bytes=5", "bytes0-1", "bytes:0-1", "byte=0-1", "Bytes=0-1", "BYTES=0-1", "items=0-1", " bytes=0-1", "bytes =0-1", "bytes= 0-1", "bytes=0 -1", "bytes=0- 1", "bytes=0-1 ", "bytes==0-1", "bytes=bytes=0-1",
		"bytes=00-1", "bytes=01-2", "bytes=0-01", "bytes=-01", "bytes=-00", "bytes=00-", "bytes=+1-2", "bytes=1-+2", "bytes=1--2", "bytes=--1", "bytes=-1-", "bytes=-1-2", "bytes=1-2-", "bytes=1-2-3", "bytes=1--", "bytes=a-b", "bytes=1-b", "bytes=a-2", "bytes=-a", "bytes=a-", "bytes=0x1-2", "bytes=1.0-2", "bytes=1-2.0", "bytes=\u0661-2",
		"bytes=0-1000000000000000000", "bytes=1000000000000000000-", "bytes=-1000000000000000000", "bytes=0-9223372036854775808", "bytes=0-99999999999999999999", "bytes=18446744073709551616-", "bytes=-18446744073709551617",
		"bytes=0-1,3-4", "bytes=0-1,", "bytes=,0-1", "bytes=0-1, bytes=3-4", "bytes=0-1;q=1", "bytes=0-1/10", "bytes=*", "bytes=0-*", "bytes=0-1\n", "bytes=0-1\x00", "bytes=0\u20131",
	} {
		for _, size := range []int{-1, 0, 1, 2, 10, 100} {
			if p := ranges(t, value, size); p != (piece{0, max(size, 0), false, 0}) {
				t.Errorf("%q %d: %v", value, size, p)
			}
		}
	}
}

func TestRangesOfAllShortTexts(t *testing.T) {
	for _, s := range texts(5, "0", "1", "3", "9", "-", ",", " ") {
		ranges(t, "bytes="+s, 4)
		ranges(t, s, 4)
	}
	const right = "bytes=12-13"
	for i := range right {
		for b := range 256 {
			for _, piece := range []string{string([]byte{byte(b)}), right[i:i+1] + string([]byte{byte(b)}), string([]byte{byte(b)}) + right[i:i+1], ""} {
				ranges(t, right[:i]+piece+right[i+1:], 15)
			}
		}
	}
}

// 21.6

func TestRangesLieWithin(t *testing.T) {
	rnd := rand.New(rand.NewPCG(21, 6))
	number := func() int {
		if rnd.IntN(9) == 0 {
			return rnd.IntN(999999999999999999)
		}
		return rnd.IntN(40)
	}
	for range 100000 {
		a, b, size := number(), number(), rnd.IntN(45)-3
		value := []string{fmt.Sprintf("bytes=%d-%d", a, b), fmt.Sprintf("bytes=%d-", a), fmt.Sprintf("bytes=-%d", b)}[rnd.IntN(3)]
		p := ranges(t, value, size)
		if p.e == api.OK && (p.from < 0 || p.n < 0 || p.from+p.n > max(size, 0)) || p.part && p.n == 0 {
			t.Errorf("%q %d: %v", value, size, p)
		}
	}
}

// Ranges that lie beside each other, of whatever lengths, read all.
func TestRangesBesideEachOther(t *testing.T) {
	data := []byte("0123456789abcdefghijklmnopqrstuvwxyz")
	read := func(value string) []byte {
		from, n, part, e := Range(value, len(data))
		if !part || e != api.OK {
			t.Fatalf("%q: %v %d", value, part, e)
		}
		return data[from : from+n]
	}
	for step := 1; step <= len(data)+2; step++ {
		var all []byte
		for i := 0; i < len(data); i += step {
			all = append(all, read(fmt.Sprintf("bytes=%d-%d", i, i+step-1))...)
		}
		if !bytes.Equal(all, data) {
			t.Errorf("%d: %q", step, all)
		}
	}
	for cut := 1; cut < len(data); cut++ {
		head := read(fmt.Sprintf("bytes=0-%d", cut-1))
		if all := append(bytes.Clone(head), read(fmt.Sprintf("bytes=%d-", cut))...); !bytes.Equal(all, data) {
			t.Errorf("%d: %q", cut, all)
		}
		if all := append(bytes.Clone(head), read(fmt.Sprintf("bytes=-%d", len(data)-cut))...); !bytes.Equal(all, data) {
			t.Errorf("%d: %q", cut, all)
		}
	}
}

// 21.4

// RFC 1321 tells the sums of these texts.
func TestKnownSums(t *testing.T) {
	for data, digits := range map[string]string{
		"":                           "d41d8cd98f00b204e9800998ecf8427e",
		"a":                          "0cc175b9c0f1b6a831c399e269772661",
		"abc":                        "900150983cd24fb0d6963f7d28e17f72",
		"message digest":             "f96b697d7cb7938d525a2f31aaf161d0",
		"abcdefghijklmnopqrstuvwxyz": "c3fcd3d76192e4007dfb496cca67e13b",
	} {
		b, _ := hex.DecodeString(digits)
		sum := base64.StdEncoding.EncodeToString(b)
		if e := digests(t, headers("content-md5", sum), []byte(data)); e != api.OK {
			t.Errorf("%q: %d", data, e)
		}
		for _, other := range []string{data + "x", "x" + data, strings.ToUpper(data) + "\x00", data + "\n"} {
			if e := digests(t, headers("content-md5", sum), []byte(other)); e != api.ErrBadDigest {
				t.Errorf("%q: %d", other, e)
			}
		}
	}
	if digests(t, headers("content-md5", "1B2M2Y8AsgTpgAmY7PhCfg=="), nil) != api.OK {
		t.Error("no data")
	}
}

func TestNoDigest(t *testing.T) {
	for _, l := range [][]api.Header{nil, {}, headers("Content-MD5", "x"), headers("content-md5 ", "x", "content-sha256", "x", "md5", "x", "x-amz-content-md5", "x", "etag", "x", "", "x")} {
		if e := digests(t, l, []byte("data")); e != api.OK {
			t.Errorf("%q: %d", l, e)
		}
	}
}

func TestDigestsThatAreNone(t *testing.T) {
	data := []byte("data")
	for n := range 40 {
		sum := base64.StdEncoding.EncodeToString(bytes.Repeat([]byte{7}, n))
		want := api.ErrInvalidDigest
		if n == 16 {
			want = api.ErrBadDigest
		}
		if e := digests(t, headers("content-md5", sum), data); e != want {
			t.Errorf("%d bytes: %d", n, e)
		}
	}
	for _, wrong := range []string{"", " ", "x", "====", "d41d8cd98f00b204e9800998ecf8427e", "1B2M2Y8AsgTpgAmY7PhCfg", "1B2M2Y8AsgTpgAmY7PhCfg=", "1B2M2Y8AsgTpgAmY7PhCfg===", "1B2M2Y8AsgTpgAmY7PhCfh==", " 1B2M2Y8AsgTpgAmY7PhCfg==", "1B2M2Y8AsgTpgAmY7PhCfg== ", "\"1B2M2Y8AsgTpgAmY7PhCfg==\"", "1B2M2Y8AsgTpgAmY7PhCfg==\n", "1B2M2Y8AsgTp\ngAmY7PhCfg==", "1B2M2Y8AsgTpgAmY7PhC-_==", "1B2M2Y8AsgTpgAmY7PhCfg==,1B2M2Y8AsgTpgAmY7PhCfg=="} {
		for _, data := range []string{"", "data"} {
			if e := digests(t, headers("content-md5", wrong), []byte(data)); e != api.ErrInvalidDigest {
				t.Errorf("%q: %d", wrong, e)
			}
		}
	}
}

// Of a sum that is told twice the first counts.
func TestDigestsToldTwice(t *testing.T) {
	const right, bad, wrong = "jXd/OF09/siBXSD3SWAm3A==", "1B2M2Y8AsgTpgAmY7PhCfg==", "x"
	want := map[string]api.Errno{right: api.OK, bad: api.ErrBadDigest, wrong: api.ErrInvalidDigest}
	for first, e := range want {
		for second := range want {
			if got := digests(t, headers("Content-MD5", "x", "content-md5", first, "content-md5", second), []byte("data")); got != e {
				t.Errorf("%q %q: %d, not %d", first, second, got, e)
			}
		}
	}
}

func TestSumsThatAreChanged(t *testing.T) {
	const right = "jXd/OF09/siBXSD3SWAm3A=="
	data := []byte("data")
	told := map[api.Errno]int{}
	for i := range right {
		for b := range 256 {
			told[digests(t, headers("content-md5", right[:i]+string([]byte{byte(b)})+right[i+1:]), data)]++
		}
		told[digests(t, headers("content-md5", right[:i]+right[i+1:]), data)]++
	}
	if told[api.OK] != len(right) || told[api.ErrBadDigest] != 21*63+3 {
		t.Error(told)
	}
	sum, _ := base64.StdEncoding.DecodeString(right)
	for i := range 128 {
		sum[i/8] ^= 1 << (i % 8)
		if e := digests(t, headers("content-md5", base64.StdEncoding.EncodeToString(sum)), data); e != api.ErrBadDigest {
			t.Error(i, e)
		}
		sum[i/8] ^= 1 << (i % 8)
	}
}
