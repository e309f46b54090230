package enc

import (
	"bytes"
	"encoding/base64"
	"encoding/binary"
	"encoding/hex"
	"math"
	"slices"
	"strconv"
	"strings"
	"testing"
)

// samples are bytes of every length up to 70, and all bytes in a row.
func samples() [][]byte {
	var l [][]byte
	for n := range 70 {
		b := make([]byte, n)
		for i := range b {
			b[i] = byte(i*i*31 + n*97)
		}
		l = append(l, b)
	}
	all := make([]byte, 256)
	for i := range all {
		all[i] = byte(i)
	}
	return append(l, all)
}

// texts calls f with every text over the given bytes that is at most n long.
func texts(over string, n int, f func(s string)) {
	var grow func(b []byte)
	grow = func(b []byte) {
		f(string(b))
		if len(b) == n {
			return
		}
		for i := range len(over) {
			grow(append(slices.Clip(b), over[i]))
		}
	}
	grow(nil)
}

// 1.1

func TestHex(t *testing.T) {
	if s := Hex([]byte{0x0A, 0xFF}); s != "0aff" {
		t.Error(s)
	}
	if Hex(nil) != "" || Hex([]byte{}) != "" {
		t.Error("nothing")
	}
	for _, b := range samples() {
		if s := Hex(b); s != hex.EncodeToString(b) {
			t.Error(b, s)
		}
	}
}

func TestUnhex(t *testing.T) {
	if b, ok := Unhex("0aff"); !ok || !bytes.Equal(b, []byte{0x0A, 0xFF}) {
		t.Error(b, ok)
	}
	if b, ok := Unhex(""); !ok || len(b) != 0 {
		t.Error(b, ok)
	}
	for _, s := range []string{"0AFF", "0", "0af", "aF", "Fa", "0g", "g0", " 0a", "0a ", "0x0a", "0a\n", "\x00\x00", "é", "0affzz"} {
		if b, ok := Unhex(s); ok || len(b) != 0 {
			t.Errorf("%q: %v %v", s, b, ok)
		}
	}
}

func TestUnhexOfAllPairs(t *testing.T) {
	known := map[string]int{}
	for i := range 256 {
		known[hex.EncodeToString([]byte{byte(i)})] = i + 1
	}
	for high := range 256 {
		for low := range 256 {
			s := string([]byte{byte(high), byte(low)})
			b, ok := Unhex(s)
			if want := known[s]; want == 0 && (ok || len(b) != 0) || want > 0 && (!ok || len(b) != 1 || int(b[0]) != want-1) {
				t.Fatalf("%q: %v %v", s, b, ok)
			}
		}
	}
}

// 1.2

func TestBase64(t *testing.T) {
	for b, want := range map[string]string{
		"": "", "M": "TQ==", "Ma": "TWE=", "Man": "TWFu", "ManM": "TWFuTQ==", "\xfb\xff\xbf": "+/+/", "\x00": "AA==", "\xff": "/w==", "\xff\xff": "//8=",
	} {
		if s := Base64([]byte(b)); s != want {
			t.Errorf("%q: %s", b, s)
		}
	}
	for _, b := range samples() {
		if s := Base64(b); s != base64.StdEncoding.EncodeToString(b) {
			t.Error(b, s)
		}
	}
}

func TestBase64OfAllPairs(t *testing.T) {
	for i := range 1 << 16 {
		b := []byte{byte(i >> 8), byte(i), 0xA5 ^ byte(i>>4)}
		for n := 1; n <= 3; n++ {
			if s := Base64(b[:n]); s != base64.StdEncoding.EncodeToString(b[:n]) {
				t.Fatal(b[:n], s)
			}
		}
	}
}

func TestUnbase64(t *testing.T) {
	for s, want := range map[string]string{
		"": "", "TQ==": "M", "TWE=": "Ma", "TWFu": "Man", "TWFuTQ==": "ManM", "+/+/": "\xfb\xff\xbf",
	} {
		if b, ok := Unbase64(s); !ok || string(b) != want {
			t.Errorf("%q: %q %v", s, b, ok)
		}
	}
	for _, s := range []string{
		"TQ", "TR==", "T", "TWF", "TWE", "TWF=", "TQ=", "TQ===", "T===", "=", "==", "====", "TQ=a", "TQ==TQ==", "TWE=TWFu", "TW=u", "=TWF",
		"TWFu\n", "TWFu\r\n\r\n", "TW\nFu", "TWF-", "TWF_", "TWF ", "\x00\x00\x00\x00", "TWFu====", "TWFu=", "TWFué", "TWFuTWF=",
	} {
		if b, ok := Unbase64(s); ok || len(b) != 0 {
			t.Errorf("%q: %v %v", s, b, ok)
		}
	}
}

func TestUnbase64OfEachCharacter(t *testing.T) {
	for c := range 256 {
		for i := range 4 {
			s := []byte("TWFu")
			s[i] = byte(c)
			// encoding/base64 passes over line ends; here they are wrong.
			want, err := base64.StdEncoding.Strict().DecodeString(string(s))
			is := err == nil && c != '\r' && c != '\n'
			if b, ok := Unbase64(string(s)); ok != is || ok && !bytes.Equal(b, want) || !ok && len(b) != 0 {
				t.Fatalf("%q: %v %v", s, b, ok)
			}
		}
	}
}

func TestUnbase64ReadsWhatBase64WritesAndNoMore(t *testing.T) {
	known := map[string][]byte{"": {}}
	for i := range 256 {
		known[base64.StdEncoding.EncodeToString([]byte{byte(i)})] = []byte{byte(i)}
	}
	// Texts of four characters: those of one byte are looked up, the others read as two or three bytes.
	texts("AQgw/8=-", 5, func(s string) {
		b, ok := Unbase64(s)
		want, is := known[s]
		if !is && len(s) == 4 && !strings.HasSuffix(s, "==") {
			var err error
			want, err = base64.StdEncoding.Strict().DecodeString(s)
			is = err == nil
		}
		if ok != is || ok && !bytes.Equal(b, want) || !ok && len(b) != 0 {
			t.Fatalf("%q: %v %v", s, b, ok)
		}
	})
}

// 1.3

func TestInt(t *testing.T) {
	for s, want := range map[string]int{
		"0": 0, "1": 1, "9": 9, "10": 10, "100": 100, "1234567890": 1234567890,
		strings.Repeat("9", 18):       999999999999999999,
		"1" + strings.Repeat("0", 17): 100000000000000000,
	} {
		if n, ok := Int(s); !ok || n != want {
			t.Error(s, n, ok)
		}
	}
	for _, s := range []string{
		"", "00", "007", "01", "-1", "-0", "+1", " 1", "1 ", "1\n", "1_0", "0x1", "1e3", "1.0", "a", "1a", "/", ":", "1/", "1:", "٣", "\x00", "-",
		strings.Repeat("9", 19), "1" + strings.Repeat("0", 18), strings.Repeat("0", 18), "0" + strings.Repeat("9", 17), "9223372036854775807", strings.Repeat("1", 1000),
	} {
		if n, ok := Int(s); ok || n != 0 {
			t.Errorf("%q: %d %v", s, n, ok)
		}
	}
}

func TestIntOfEachCharacter(t *testing.T) {
	for c := range 256 {
		b := byte(c)
		digit := '0' <= b && b <= '9'
		for s, is := range map[string]bool{string([]byte{b}): digit, string([]byte{b, '5'}): digit && b != '0', string([]byte{'5', b}): digit} {
			want := 0
			if is {
				want, _ = strconv.Atoi(s)
			}
			if n, ok := Int(s); ok != is || n != want {
				t.Errorf("%q: %d %v", s, n, ok)
			}
		}
	}
}

func TestText(t *testing.T) {
	for n, want := range map[int]string{
		0: "0", 7: "7", 10: "10", -1: "-1", -10: "-10", 999999999999999999: strings.Repeat("9", 18),
		math.MaxInt: "9223372036854775807", math.MinInt: "-9223372036854775808",
	} {
		if s := Text(n); s != want {
			t.Error(n, s)
		}
	}
}

// 1.4

func TestPack(t *testing.T) {
	long := strings.Repeat("x", 0x010203)
	for _, c := range []struct {
		l    []string
		want string
	}{
		{nil, ""},
		{[]string{}, ""},
		{[]string{""}, "\x00\x00\x00\x00"},
		{[]string{"ab", ""}, "\x00\x00\x00\x02ab\x00\x00\x00\x00"},
		{[]string{"", "ab"}, "\x00\x00\x00\x00\x00\x00\x00\x02ab"},
		{[]string{strings.Repeat("y", 255), strings.Repeat("z", 256)}, "\x00\x00\x00\xff" + strings.Repeat("y", 255) + "\x00\x00\x01\x00" + strings.Repeat("z", 256)},
		{[]string{long}, "\x00\x01\x02\x03" + long},
		{[]string{"\xff\x00"}, "\x00\x00\x00\x02\xff\x00"},
	} {
		if b := Pack(c.l); string(b) != c.want {
			t.Errorf("%q: %q", c.l, b)
		}
		if l, ok := Unpack([]byte(c.want)); !ok || !slices.Equal(l, c.l) {
			t.Errorf("%q: %q %v", c.want, l, ok)
		}
	}
}

func TestUnpackOfWrongBytes(t *testing.T) {
	for _, s := range []string{
		"\x00", "\x00\x00", "\x00\x00\x00", "\x00\x00\x00\x01", "\x00\x00\x00\x02a", "\x00\x00\x00\x00x", "\x00\x00\x00\x01ab",
		"\xff\xff\xff\xffa", "\x80\x00\x00\x00", "\x00\x00\x00\x01a\x00\x00\x00", "\x00\x00\x00\x01a\x00\x00\x00\x01", "\x01\x00\x00\x00a",
	} {
		if l, ok := Unpack([]byte(s)); ok || len(l) != 0 {
			t.Errorf("%q: %q %v", s, l, ok)
		}
	}
}

func TestUnpackReadsWhatPackWritesAndNoMore(t *testing.T) {
	texts("\x00\x01\x02\xff", 9, func(s string) {
		l, ok := Unpack([]byte(s))
		if ok && string(Pack(l)) != s || !ok && len(l) != 0 {
			t.Fatalf("%q: %q %v", s, l, ok)
		}
	})
}

func TestPut64(t *testing.T) {
	for _, n := range []uint64{0, 1, 255, 256, 0x0102030405060708, 1<<63 - 1, 1 << 63, 1<<63 + 5, math.MaxUint64} {
		b := Put64(n)
		if !bytes.Equal(b, binary.BigEndian.AppendUint64(nil, n)) {
			t.Error(n, b)
		}
		if m, ok := Get64(b); !ok || m != n {
			t.Error(n, m, ok)
		}
	}
	for i := range 20 {
		if n, ok := Get64(bytes.Repeat([]byte{1}, i)); ok != (i == 8) || !ok && n != 0 {
			t.Error(i, n, ok)
		}
	}
}

// 1.5

func TestThereAndBack(t *testing.T) {
	for _, b := range samples() {
		if x, ok := Unhex(Hex(b)); !ok || !bytes.Equal(x, b) {
			t.Error("hex", b, x, ok)
		}
		if x, ok := Unbase64(Base64(b)); !ok || !bytes.Equal(x, b) {
			t.Error("base64", b, x, ok)
		}
		l := strings.Split(string(b), string(b[len(b)/2:min(len(b), len(b)/2+1)]))
		if x, ok := Unpack(Pack(l)); !ok || !slices.Equal(x, l) {
			t.Errorf("pack %q: %q %v", l, x, ok)
		}
	}
	for i := range 2000 {
		for _, n := range []int{i, i * 7919 * 104729, 999999999999999999 - i} {
			if m, ok := Int(Text(n)); !ok || m != n {
				t.Error("int", n, m, ok)
			}
			if m, ok := Get64(Put64(uint64(n))); !ok || m != uint64(n) {
				t.Error("put64", n, m, ok)
			}
		}
	}
}

func TestNoTwoListsHaveOnePack(t *testing.T) {
	var words []string
	texts("\x00\x01a", 2, func(s string) { words = append(words, s) })
	lists := [][]string{{}}
	for _, a := range words {
		lists = append(lists, []string{a})
		for _, b := range words {
			lists = append(lists, []string{a, b})
			for _, c := range words {
				lists = append(lists, []string{a, b, c})
			}
		}
	}
	seen := map[string][]string{}
	for _, l := range lists {
		b := string(Pack(l))
		if other, ok := seen[b]; ok {
			t.Fatalf("%q and %q: %q", l, other, b)
		}
		seen[b] = l
	}
}

func TestPut64KeepsTheOrder(t *testing.T) {
	var l []uint64
	for i := range 64 {
		l = append(l, 1<<i-1, 1<<i, 1<<i+1, math.MaxUint64-1<<i)
	}
	for _, a := range l {
		for _, b := range l {
			less := bytes.Compare(Put64(a), Put64(b)) < 0
			if less != (a < b) {
				t.Fatal(a, b)
			}
		}
	}
}

// 1.6

// TestHostile holds what is answered against nothing: a panic or a call without end breaks it.
func TestHostile(t *testing.T) {
	hostile := []string{strings.Repeat("=", 1<<16), strings.Repeat("9", 1<<16), strings.Repeat("\xff", 1<<16), strings.Repeat("\x00", 1<<16)}
	for c := range 256 {
		for n := range 9 {
			hostile = append(hostile, strings.Repeat(string([]byte{byte(c)}), n))
		}
	}
	for _, s := range hostile {
		b := []byte(s)
		Hex(b)
		Base64(b)
		Unhex(s)
		Unbase64(s)
		Int(s)
		Pack([]string{s, s})
		Unpack(b)
		Get64(b)
	}
}

// spoil overwrites b and the spare room behind it.
func spoil(b []byte) {
	b = b[:cap(b)]
	for i := range b {
		b[i] = '!'
	}
}

func TestBytesAreNewMemory(t *testing.T) {
	packed := []string{"ab", "cd"}
	for name, call := range map[string]func() []byte{
		"Unhex":    func() []byte { b, _ := Unhex("61626364"); return b },
		"Unbase64": func() []byte { b, _ := Unbase64("YWJjZA=="); return b },
		"Pack":     func() []byte { return Pack(packed) },
		"Put64":    func() []byte { return Put64(77) },
	} {
		first, second := call(), call()
		want := bytes.Clone(second)
		spoil(first)
		if !bytes.Equal(second, want) || !bytes.Equal(call(), want) {
			t.Error(name)
		}
	}
	if !slices.Equal(packed, []string{"ab", "cd"}) {
		t.Error(packed)
	}
}

func TestUnpackedListIsNewMemory(t *testing.T) {
	want := []string{"ab", "", "cd"}
	b := Pack(want)
	l, _ := Unpack(b)
	other, _ := Unpack(b)
	for i := range l[:cap(l)] {
		l[:cap(l)][i] = "!"
	}
	spoil(b)
	if !slices.Equal(other, want) {
		t.Errorf("%q", other)
	}
}

func TestArgumentsAreLeftAlone(t *testing.T) {
	for _, s := range []string{"\x00\x00\x00\x01a\x00\x00\x00\x00", "12345678", "1", ""} {
		room := append([]byte(s), "spare room"...)
		b := room[:len(s)]
		Hex(b)
		Base64(b)
		Unpack(b)
		Get64(b)
		if string(room) != s+"spare room" {
			t.Errorf("%q: %q", s, room)
		}
	}
	room := []string{"a", "b", "spare"}
	Pack(room[:2])
	if !slices.Equal(room, []string{"a", "b", "spare"}) {
		t.Errorf("%q", room)
	}
}
