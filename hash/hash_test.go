package hash

import (
	"bytes"
	"crypto/hmac"
	"crypto/md5"
	"crypto/sha256"
	"encoding"
	"encoding/binary"
	"encoding/hex"
	"hash"
	"hash/crc32"
	"math"
	"strings"
	"testing"

	"stowage/api"
)

// sample is n bytes without a short period.
func sample(n int) []byte {
	b := make([]byte, n)
	x := uint32(n) + 1
	for i := range b {
		x = x*1664525 + 1013904223
		b[i] = byte(x >> 24)
	}
	return b
}

// lengths go past four blocks one by one, and on to what a body may hold.
func lengths() []int {
	var l []int
	for n := range 260 {
		l = append(l, n)
	}
	return append(l, 511, 512, 4095, 65536, 65591, 65592, api.MaxBody)
}

func wantMD5(b []byte) []byte {
	s := md5.Sum(b)
	return s[:]
}

func wantSHA(b []byte) []byte {
	s := sha256.Sum256(b)
	return s[:]
}

func wantHMAC(key, b []byte) []byte {
	h := hmac.New(sha256.New, key)
	h.Write(b)
	return h.Sum(nil)
}

// kinds pairs each kind of stream with the sum of the whole.
func kinds() map[int]func([]byte) []byte {
	return map[int]func([]byte) []byte{api.HMD5: wantMD5, api.HSHA: wantSHA}
}

func begin(t *testing.T, kind int) *Stream {
	t.Helper()
	s, e := New(kind)
	if e != api.OK || s == nil {
		t.Fatal(kind, e)
	}
	return s
}

// unspoiled has f called with b before spare room, and tells whether f left both as they were.
func unspoiled(b []byte, f func(b []byte)) bool {
	room := bytes.Repeat([]byte{0xA5}, len(b)+100)
	copy(room, b)
	was := bytes.Clone(room)
	f(room[:len(b)])
	return bytes.Equal(room, was)
}

// spoil overwrites an answer and the spare room behind it.
func spoil(b []byte) {
	b = b[:cap(b)]
	for i := range b {
		b[i] ^= 0xFF
	}
}

// 2.1

func TestMD5(t *testing.T) {
	known := map[string]string{
		"":                              "d41d8cd98f00b204e9800998ecf8427e",
		"a":                             "0cc175b9c0f1b6a831c399e269772661",
		"abc":                           "900150983cd24fb0d6963f7d28e17f72",
		"message digest":                "f96b697d7cb7938d525a2f31aaf161d0",
		"abcdefghijklmnopqrstuvwxyz":    "c3fcd3d76192e4007dfb496cca67e13b",
		strings.Repeat("1234567890", 8): "57edf4a22be3c955ac49da2e2107b67a",
	}
	for text, want := range known {
		if got := hex.EncodeToString(MD5([]byte(text))); got != want {
			t.Errorf("%q: %s", text, got)
		}
	}
	for _, n := range lengths() {
		if b := sample(n); !bytes.Equal(MD5(b), wantMD5(b)) {
			t.Error(n)
		}
	}
	if !bytes.Equal(MD5(nil), MD5([]byte{})) {
		t.Error("nil and nothing")
	}
}

func TestSHA256(t *testing.T) {
	known := map[string]string{
		"":    "e3b0c44298fc1c149afbf4c8996fb92427ae41e4649b934ca495991b7852b855",
		"abc": "ba7816bf8f01cfea414140de5dae2223b00361a396177a9cb410ff61f20015ad",
		"abcdbcdecdefdefgefghfghighijhijkijkljklmklmnlmnomnopnopq": "248d6a61d20638b8e5c026930c3e6039a33ce45964ff2167f6ecedd419db06c1",
	}
	for text, want := range known {
		if got := hex.EncodeToString(SHA256([]byte(text))); got != want {
			t.Errorf("%q: %s", text, got)
		}
	}
	for _, n := range lengths() {
		if b := sample(n); !bytes.Equal(SHA256(b), wantSHA(b)) {
			t.Error(n)
		}
	}
	if !bytes.Equal(SHA256(nil), SHA256([]byte{})) {
		t.Error("nil and nothing")
	}
}

func TestHMAC(t *testing.T) {
	got := hex.EncodeToString(HMAC([]byte("key"), []byte("The quick brown fox jumps over the lazy dog")))
	if got != "f7bc83f430538424b13298e6aa6fb143ef4d59a14946175997479dbc2d1a3cd8" {
		t.Error(got)
	}
	// The keys go past a block: 64 bytes are taken as they are, 65 by their sum.
	for k := range 140 {
		for _, n := range []int{0, 1, 32, 55, 56, 63, 64, 65, 200} {
			key, b := sample(k), sample(n)
			if !bytes.Equal(HMAC(key, b), wantHMAC(key, b)) {
				t.Error(k, n)
			}
		}
	}
	for _, n := range lengths() {
		key, b := sample(20), sample(n)
		if !bytes.Equal(HMAC(key, b), wantHMAC(key, b)) {
			t.Error(n)
		}
	}
	if !bytes.Equal(HMAC(nil, nil), wantHMAC(nil, nil)) || !bytes.Equal(HMAC([]byte{}, []byte{}), HMAC(nil, nil)) {
		t.Error("nothing")
	}
}

func TestCRC(t *testing.T) {
	if c := CRC([]byte("123456789")); c != 0xe3069283 {
		t.Errorf("%x", c)
	}
	if CRC(nil) != 0 || CRC([]byte{}) != 0 {
		t.Error("nothing")
	}
	table := crc32.MakeTable(crc32.Castagnoli)
	for c := range 256 {
		if b := []byte{byte(c)}; CRC(b) != crc32.Checksum(b, table) {
			t.Error(c)
		}
	}
	for _, n := range lengths() {
		if b := sample(n); CRC(b) != crc32.Checksum(b, table) {
			t.Error(n)
		}
	}
}

// sumBehind is the library's sum of rest behind a state and size bytes in all.
func sumBehind(t *testing.T, h hash.Hash, magic string, state []uint32, rest []byte, size int) []byte {
	t.Helper()
	b := []byte(magic)
	for _, w := range state {
		b = binary.BigEndian.AppendUint32(b, w)
	}
	b = append(b, rest...)
	b = append(b, make([]byte, 64-len(rest))...)
	b = binary.BigEndian.AppendUint64(b, uint64(size))
	if e := h.(encoding.BinaryUnmarshaler).UnmarshalBinary(b); e != nil {
		t.Fatal(e)
	}
	return h.Sum(nil)
}

// TestLongTexts asks for sums of texts whose bits no 32 bits count, without writing them: by a state in their midst.
func TestLongTexts(t *testing.T) {
	for _, size := range []int{1<<29 - 1, 1 << 29, 1<<29 + 57, math.MaxInt32} {
		rest := sample(size % 64)
		m := &md5State{1, 2 << 10, 3 << 20, 4 << 29}
		if got := m.sum(rest, size); !bytes.Equal(got, sumBehind(t, md5.New(), "md5\x01", m[:], rest, size)) {
			t.Errorf("MD5 of %d: %x", size, got)
		}
		h := &shaState{1, 2 << 10, 3 << 20, 4 << 29, 5, 6, 7, 8}
		if got := h.sum(rest, size); !bytes.Equal(got, sumBehind(t, sha256.New(), "sha\x03", h[:], rest, size)) {
			t.Errorf("SHA256 of %d: %x", size, got)
		}
	}
}

func TestSumsChangeNothing(t *testing.T) {
	for _, n := range []int{0, 1, 55, 56, 63, 64, 65, 128, 200} {
		b := sample(n)
		calls := map[string]func(b []byte){
			"MD5":      func(b []byte) { MD5(b) },
			"SHA256":   func(b []byte) { SHA256(b) },
			"HMAC key": func(b []byte) { HMAC(b, []byte("text")) },
			"HMAC":     func(b []byte) { HMAC([]byte("key"), b) },
			"CRC":      func(b []byte) { CRC(b) },
		}
		for kind := range kinds() {
			calls["Write"+string(rune('0'+kind))] = func(b []byte) {
				s := begin(t, kind)
				s.Write(b)
				s.Sum()
				s.Write(b)
			}
		}
		for name, f := range calls {
			if !unspoiled(b, f) {
				t.Error(name, n)
			}
		}
	}
}

// 2.2

func TestNew(t *testing.T) {
	for kind, want := range kinds() {
		s := begin(t, kind)
		if s.Size() != 0 || !bytes.Equal(s.Sum(), want(nil)) {
			t.Error(kind)
		}
	}
	for _, kind := range []int{3, 0, -1, 4, 256 + api.HMD5, 1<<32 + api.HSHA, math.MinInt, math.MaxInt} {
		if s, e := New(kind); s != nil || e != api.ErrArg {
			t.Error(kind, e)
		}
	}
}

func TestWriteCopies(t *testing.T) {
	for kind, want := range kinds() {
		s := begin(t, kind)
		var all []byte
		for n := range 150 {
			b := sample(n)
			all = append(all, b...)
			s.Write(b)
			spoil(b)
			if !bytes.Equal(s.Sum(), want(all)) || s.Size() != len(all) {
				t.Fatal(kind, n)
			}
		}
	}
}

func TestSumIsNew(t *testing.T) {
	for kind, want := range kinds() {
		s := begin(t, kind)
		for _, n := range []int{0, 1, 62, 1, 64, 300} {
			s.Write(sample(n))
			first, second := s.Sum(), s.Sum()
			kept := bytes.Clone(second)
			spoil(first)
			if !bytes.Equal(second, kept) || !bytes.Equal(s.Sum(), kept) {
				t.Error(kind, n)
			}
		}
		spoil(MD5(nil))
		spoil(SHA256(nil))
		if !bytes.Equal(begin(t, kind).Sum(), want(nil)) {
			t.Error(kind, "begun anew")
		}
	}
}

func TestSize(t *testing.T) {
	for kind := range kinds() {
		s := begin(t, kind)
		size := 0
		for _, n := range []int{0, 1, 0, 63, 64, 65, 1000, 0, api.MaxBody} {
			s.Write(make([]byte, n))
			size += n
			s.Sum()
			if s.Size() != size {
				t.Error(kind, s.Size(), size)
			}
		}
		s.Write(nil)
		if s.Size() != size {
			t.Error(kind, "nil")
		}
	}
}

func TestStreamsApart(t *testing.T) {
	a, b, c := begin(t, api.HMD5), begin(t, api.HSHA), begin(t, api.HMD5)
	var texts [3][]byte
	for n := range 200 {
		p := sample(n)
		a.Write(p)
		b.Write(p[n/2:])
		c.Write(p[n/3:])
		texts[0] = append(texts[0], p...)
		texts[1] = append(texts[1], p[n/2:]...)
		texts[2] = append(texts[2], p[n/3:]...)
	}
	if !bytes.Equal(a.Sum(), wantMD5(texts[0])) || !bytes.Equal(b.Sum(), wantSHA(texts[1])) || !bytes.Equal(c.Sum(), wantMD5(texts[2])) {
		t.Error("one stream is seen in another")
	}
}

// 2.3

// TestCuts cuts texts of up to four blocks at every two places, and asks for a sum at each.
func TestCuts(t *testing.T) {
	for kind, want := range kinds() {
		for _, n := range []int{0, 1, 64, 127, 130, 200} {
			text := sample(n)
			whole := want(text)
			for i := 0; i <= n; i++ {
				for k := i; k <= n; k += 1 + k%3 {
					quiet, asked := begin(t, kind), begin(t, kind)
					for _, p := range [][]byte{text[:i], text[i:k], text[k:]} {
						quiet.Write(p)
						asked.Write(p)
						if !bytes.Equal(asked.Sum(), want(text[:asked.Size()])) {
							t.Fatal(kind, n, i, k)
						}
					}
					if !bytes.Equal(quiet.Sum(), whole) || !bytes.Equal(asked.Sum(), whole) {
						t.Fatal(kind, n, i, k)
					}
				}
			}
		}
	}
}

func TestEvenCuts(t *testing.T) {
	text := sample(5000)
	for kind, want := range kinds() {
		for _, n := range []int{1, 2, 3, 7, 31, 32, 33, 63, 64, 65, 127, 128, 129, 1000, 4999, 5000} {
			s := begin(t, kind)
			for at := 0; at < len(text); at += n {
				s.Write(text[at:min(at+n, len(text))])
			}
			if !bytes.Equal(s.Sum(), want(text)) {
				t.Error(kind, n)
			}
		}
	}
}

// 2.4

func FuzzSums(f *testing.F) {
	f.Add([]byte(nil), []byte(nil), 0)
	f.Add([]byte("key"), []byte("The quick brown fox jumps over the lazy dog"), 3)
	f.Add(sample(64), sample(64), 1)
	f.Add(sample(65), sample(200), 2)
	f.Fuzz(func(t *testing.T, a, b []byte, kind int) {
		both := append(bytes.Clone(a), b...)
		if !bytes.Equal(HMAC(a, b), wantHMAC(a, b)) || CRC(both) != crc32.Checksum(both, crc32.MakeTable(crc32.Castagnoli)) {
			t.Error("HMAC or CRC")
		}
		if !bytes.Equal(MD5(both), wantMD5(both)) || !bytes.Equal(SHA256(both), wantSHA(both)) {
			t.Error("MD5 or SHA256")
		}
		s, e := New(kind)
		want := kinds()[kind]
		if (want == nil) != (e == api.ErrArg && s == nil) {
			t.Fatal(kind, e)
		}
		if want == nil {
			return
		}
		s.Write(a)
		s.Write(b)
		if !bytes.Equal(s.Sum(), want(both)) || s.Size() != len(both) {
			t.Error("stream")
		}
	})
}
