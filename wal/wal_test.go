package wal

import (
	"bytes"
	"encoding/binary"
	"encoding/hex"
	"hash/crc32"
	"math"
	"math/rand"
	"slices"
	"strings"
	"testing"

	"stowage/api"
	"stowage/crashtest"
	"stowage/disk"
)

// packed, sealed and framed tell straight from the chapter, by the library, what a frame is.

func packed(records []string) []byte {
	var b []byte
	for _, r := range records {
		b = binary.BigEndian.AppendUint32(b, uint32(len(r)))
		b = append(b, r...)
	}
	return b
}

// sealed is a frame of this payload, whether Unpack takes it or not, and noughts up to its last sector's end.
func sealed(epoch, number uint64, payload []byte) []byte {
	body := binary.BigEndian.AppendUint64(nil, epoch)
	body = binary.BigEndian.AppendUint64(body, number)
	body = append(body, payload...)
	b := binary.BigEndian.AppendUint32(nil, uint32(len(payload)))
	b = binary.BigEndian.AppendUint32(b, crc32.Checksum(body, crc32.MakeTable(crc32.Castagnoli)))
	b = append(b, body...)
	for len(b)%256 != 0 {
		b = append(b, 0)
	}
	return b
}

func framed(epoch, number uint64, records ...string) []byte {
	return sealed(epoch, number, packed(records))
}

func mustOpen(t testing.TB, d *disk.Dev, from, n int, epoch uint64) (*Log, [][]string) {
	t.Helper()
	l, all, e := Open(d, from, n, epoch)
	if e != api.OK || l == nil {
		t.Fatal(from, n, epoch, e)
	}
	return l, all
}

func mustAppend(t testing.TB, l *Log, records ...string) {
	t.Helper()
	if e := l.Append(records); e != api.OK {
		t.Fatal(len(records), e)
	}
}

// tells asserts which frames an Open finds, which number is next and how much room is left.
func tells(t testing.TB, d *disk.Dev, from, n int, epoch uint64, want ...[]string) {
	t.Helper()
	l, all := mustOpen(t, d, from, n, epoch)
	room := n
	for _, records := range want {
		room -= (24 + len(packed(records)) + 255) / 256
	}
	if !sameFrames(all, want) || l.Next() != uint64(len(want)) || l.Room() != room {
		t.Fatalf("%d frames, next %d, room %d; want %d frames and room %d", len(all), l.Next(), l.Room(), len(want), room)
	}
}

func sameFrames(a, b [][]string) bool {
	return slices.EqualFunc(a, b, slices.Equal[[]string])
}

func xs(n int) string {
	return strings.Repeat("x", n)
}

// lists are records of many kinds: none, empty ones, many, and such as end at, ahead of and behind a sector's end.
func lists() [][]string {
	l := [][]string{nil, {}, {""}, {"", ""}, {"a"}, {"a", "", "bc"}, {"\x00"}, {"\x00\x00\x00\x00"}, {"\xFF\xFE"}}
	for _, n := range []int{227, 228, 229, 230, 483, 484, 485, 739, 740, 741, 1000} {
		l = append(l, []string{xs(n)}, []string{xs(n - 5), "y"}, []string{"", xs(n - 4)})
	}
	return append(l, slices.Repeat([]string{""}, 58), slices.Repeat([]string{""}, 59), slices.Repeat([]string{"ab"}, 100))
}

// 6.1

func TestNeed(t *testing.T) {
	for n := range 1300 {
		want := len(framed(0, 0, xs(n))) / 256
		if got := Need([]string{xs(n)}); got != want {
			t.Error(n, got, want)
		}
	}
	for _, l := range lists() {
		if got, want := Need(l), len(framed(7, 9, l...))/256; got != want {
			t.Error(len(l), got, want)
		}
	}
	for want, l := range map[int][]string{
		1:    slices.Repeat([]string{""}, 58),
		2:    slices.Repeat([]string{""}, 59),
		4096: {xs(4096*256 - 28)},
		4097: {xs(4096*256 - 27)},
	} {
		if got := Need(l); got != want {
			t.Error(got, want)
		}
	}
}

func TestNeedOfMoreThanAnyLogHolds(t *testing.T) {
	// 2^40 bytes, if somebody put them together.
	l := slices.Repeat([]string{xs(1 << 20)}, 1<<20)
	if got := Need(l); got != (24+1<<20*(1<<20+4)+255)/256 {
		t.Error(got)
	}
	log, _ := mustOpen(t, crashtest.Device(t, 1, 0), 0, 1, 0)
	if e := log.Append(l); e != api.ErrFull {
		t.Error(e)
	}
}

func TestTheBytesOfAFrame(t *testing.T) {
	d := crashtest.Device(t, 2, 0)
	l, _ := mustOpen(t, d, 0, 2, 0x0102030405060708)
	mustAppend(t, l, "ab", "")
	b, _ := d.Read(0)
	want := "0000000a" + "080c105a" + "0102030405060708" + "0000000000000000" + "00000002" + "6162" + "00000000"
	if got := hex.EncodeToString(b[:34]); got != want || !bytes.Equal(b[34:], make([]byte, 222)) {
		t.Error(got, b[34:])
	}
}

func TestFramesAsTheyLie(t *testing.T) {
	for _, epoch := range []uint64{0, 1, 255, 256, 1 << 32, 1<<56 + 3, math.MaxUint64} {
		d := crashtest.Device(t, 300, 0)
		crashtest.Lay(t, d, 3, bytes.Repeat([]byte{0xEE}, 290*256))
		l, _ := mustOpen(t, d, 3, 290, epoch)
		var want []byte
		for i, records := range lists() {
			mustAppend(t, l, records...)
			want = append(want, framed(epoch, uint64(i), records...)...)
			if got := crashtest.Content(t, d)[3*256:]; !bytes.Equal(got[:len(want)], want) {
				t.Fatal(epoch, i, "not the frames' bytes")
			}
			if l.Next() != uint64(i+1) || l.Room() != 290-len(want)/256 {
				t.Fatal(epoch, i, l.Next(), l.Room())
			}
		}
		tells(t, d, 3, 290, epoch, lists()...)
	}
}

// 6.2

func TestOpenOfNoLog(t *testing.T) {
	d := crashtest.Device(t, 12, 0)
	for _, x := range [][2]int{
		{0, 0}, {0, -1}, {0, math.MinInt}, {12, 0}, {3, -3}, {3, math.MinInt},
		{-1, 1}, {-1, 2}, {-1, 12}, {-1, 13}, {-12, 12}, {math.MinInt, 1}, {math.MinInt, math.MaxInt},
		{0, 13}, {1, 12}, {2, 11}, {11, 2}, {12, 1}, {13, 1}, {13, -1}, {24, 12},
		{0, math.MaxInt}, {1, math.MaxInt}, {11, math.MaxInt}, {math.MaxInt, 1}, {math.MaxInt, math.MaxInt}, {1 << 62, 1 << 62}, {math.MaxInt, math.MinInt}, {math.MinInt, math.MinInt},
	} {
		if l, all, e := Open(d, x[0], x[1], 0); l != nil || all != nil || e != api.ErrArg {
			t.Error(x, l, all, e)
		}
	}
	for _, x := range [][2]int{{0, 1}, {-1, 0}, {0, 0}} {
		if l, all, e := Open(nil, x[0], x[1], 0); l != nil || all != nil || e != api.ErrArg {
			t.Error(x, l, all, e)
		}
	}
}

func TestOpenOfEveryPiece(t *testing.T) {
	for from := range 5 {
		for n := 1; n <= 5-from; n++ {
			l, all := mustOpen(t, crashtest.Device(t, 5, 0), from, n, 0)
			if len(all) != 0 || l.Next() != 0 || l.Room() != n {
				t.Error(from, n, all, l.Next(), l.Room())
			}
		}
	}
}

func TestOpenOfADeadDevice(t *testing.T) {
	d := crashtest.Device(t, 4, 0)
	crashtest.Lay(t, d, 0, framed(0, 0, "a"))
	d.Fuse(0)
	d.Flush()
	if l, all, e := Open(d, 0, 4, 0); l != nil || all != nil || e != api.ErrDead {
		t.Error(l, all, e)
	}
	for _, x := range [][2]int{{0, 0}, {-1, 2}, {0, 5}, {4, 1}} {
		if l, _, e := Open(d, x[0], x[1], 0); l != nil || e != api.ErrArg {
			t.Error("the arguments come ahead of the device", x, e)
		}
	}
	d.Crash(nil)
	tells(t, d, 0, 4, 0, []string{"a"})
}

func TestOpenReadsWhatIsNotYetFlushed(t *testing.T) {
	d := crashtest.Device(t, 4, 0)
	if e := d.Write(1, framed(0, 0, "a")); e != api.OK {
		t.Fatal(e)
	}
	tells(t, d, 1, 3, 0, []string{"a"})
}

// TestWhatIsNoFrame lays something between two frames that are whole: if it is no frame the log ends there.
func TestWhatIsNoFrame(t *testing.T) {
	const epoch = 5
	good := framed(epoch, 1, "middle", xs(300))
	long := func(n uint32) []byte {
		b := slices.Clone(good)
		binary.BigEndian.PutUint32(b, n)
		return b
	}
	for name, middle := range map[string][]byte{
		"noughts":              make([]byte, 512),
		"ones":                 bytes.Repeat([]byte{0xFF}, 512),
		"an older epoch":       framed(epoch-1, 1, "middle", xs(300)),
		"a later epoch":        framed(epoch+1, 1, "middle", xs(300)),
		"epoch 0":              framed(0, 1, "middle", xs(300)),
		"the number ahead":     framed(epoch, 0, "middle", xs(300)),
		"the number behind":    framed(epoch, 2, "middle", xs(300)),
		"a number far away":    framed(epoch, 1<<32+1, "middle", xs(300)),
		"an epoch far away":    framed(epoch+1<<32, 1, "middle", xs(300)),
		"epoch and number":     framed(1, epoch, "middle", xs(300)),
		"a byte less":          long(313),
		"a byte more":          long(315),
		"no payload":           long(0),
		"as long as the log":   long(7*256 - 24),
		"longer than the log":  long(7*256 - 23),
		"longer than an int32": long(1 << 31),
		"as long as can be":    long(math.MaxUint32),
		"wraps round":          long(math.MaxUint32 - 23),
		"one byte":             append(sealed(epoch, 1, []byte{0}), make([]byte, 256)...),
		"three bytes":          append(sealed(epoch, 1, []byte{0, 0, 0}), make([]byte, 256)...),
		"a record cut short":   sealed(epoch, 1, packed([]string{xs(300)})[:303]),
		"a byte behind it":     sealed(epoch, 1, append(packed([]string{xs(300)}), 0)),
		"a record of 2^32-1":   sealed(epoch, 1, append([]byte{0xFF, 0xFF, 0xFF, 0xFF}, xs(300)...)),
		"begins a byte later":  append([]byte{0}, good[:511]...),
		"begins a byte sooner": append(slices.Clone(good[1:]), 0),
		"begins a sector on":   append(make([]byte, 256), framed(epoch, 1, "x")...),
	} {
		t.Run(name, func(t *testing.T) {
			d := crashtest.Device(t, 16, 0)
			crashtest.Lay(t, d, 4, slices.Concat(framed(epoch, 0, "first"), middle, framed(epoch, 2, "last")))
			tells(t, d, 4, 8, epoch, []string{"first"})
		})
	}
	d := crashtest.Device(t, 16, 0)
	crashtest.Lay(t, d, 4, slices.Concat(framed(epoch, 0, "first"), good, framed(epoch, 2, "last")))
	tells(t, d, 4, 8, epoch, []string{"first"}, []string{"middle", xs(300)}, []string{"last"})
}

func TestEveryBitOfAFrameCounts(t *testing.T) {
	for _, records := range [][]string{nil, {""}, {"a"}, {xs(228)}, {xs(229)}, {"key", xs(300)}} {
		frame := framed(0, 0, records...)
		size := 24 + len(packed(records))
		for bit := range 8 * len(frame) {
			b := slices.Clone(frame)
			b[bit/8] ^= 1 << (bit % 8)
			d := crashtest.Device(t, 8, 0)
			crashtest.Lay(t, d, 0, b)
			if bit < 8*size {
				tells(t, d, 0, 8, 0)
			} else {
				// The noughts that fill the last sector are not asked for.
				tells(t, d, 0, 8, 0, records)
			}
		}
	}
}

func TestAFrameLiesWhollyWithinTheLog(t *testing.T) {
	for sectors := 1; sectors <= 5; sectors++ {
		fits := []string{xs(sectors*256 - 28)}
		d := crashtest.Device(t, 12, 0)
		crashtest.Lay(t, d, 2, framed(9, 0, fits...))
		for n := 1; n <= 10; n++ {
			if n < sectors {
				tells(t, d, 2, n, 9)
			} else {
				tells(t, d, 2, n, 9, fits)
			}
		}
		// One byte more: the device has that sector, the log has not.
		more := []string{xs(sectors*256 - 27)}
		d = crashtest.Device(t, 12, 0)
		crashtest.Lay(t, d, 2, framed(9, 0, more...))
		tells(t, d, 2, sectors, 9)
		tells(t, d, 2, sectors+1, 9, more)
	}
}

func TestFramesUpToTheEnd(t *testing.T) {
	d := crashtest.Device(t, 8, 0)
	var all []byte
	for i := range uint64(8) {
		all = append(all, framed(3, i, "r")...)
	}
	crashtest.Lay(t, d, 0, all)
	for n := 1; n <= 8; n++ {
		tells(t, d, 0, n, 3, slices.Repeat([][]string{{"r"}}, n)...)
	}
	// From elsewhere on the numbers do not begin with 0.
	for from := 1; from < 8; from++ {
		tells(t, d, from, 8-from, 3)
	}
}

func TestAWholeDevice(t *testing.T) {
	d := crashtest.Device(t, 4096, 0)
	long := []string{"k", xs(4096*256 - 33)}
	l, _ := mustOpen(t, d, 0, 4096, 1)
	mustAppend(t, l, long...)
	if l.Room() != 0 || l.Next() != 1 {
		t.Error(l.Room(), l.Next())
	}
	tells(t, d, 0, 4096, 1, long)
	tells(t, d, 0, 4095, 1)
}

// 6.3

func TestTheCallsOfAnAppend(t *testing.T) {
	for _, x := range []struct{ need, room int }{{1, 1}, {1, 2}, {1, 5}, {2, 2}, {2, 3}, {2, 5}, {3, 3}, {3, 4}, {5, 5}, {5, 6}} {
		d := crashtest.Device(t, 12, 0xEE)
		const from, at = 3, 4
		l, _ := mustOpen(t, d, from, x.room+1, 4)
		mustAppend(t, l, "ahead")
		record := xs(x.need*256 - 30)
		frame := framed(4, 1, record)
		first, behind := frame[:256], frame[256:]
		if x.room > x.need {
			behind = append(behind, make([]byte, 256)...)
		}
		crashtest.Calls(t, d, func(c *disk.Dev) api.Errno {
			m, _ := mustOpen(t, c, from, x.room+1, 4)
			return m.Append([]string{record})
		}, crashtest.Writes(at+1, behind), crashtest.Writes(at, first))
	}
}

func TestNoughtsBehindTheLastFrame(t *testing.T) {
	for need := 1; need <= 4; need++ {
		d := crashtest.Device(t, 10, 0xEE)
		l, _ := mustOpen(t, d, 2, 6, 0)
		mustAppend(t, l, xs(need*256-28))
		got := crashtest.Content(t, d)
		want := slices.Concat(bytes.Repeat([]byte{0xEE}, 512), framed(0, 0, xs(need*256-28)), make([]byte, 256))
		want = append(want, bytes.Repeat([]byte{0xEE}, 10*256-len(want))...)
		if !bytes.Equal(got, want) {
			t.Error(need)
		}
	}
}

func TestALogKeepsToItsSectors(t *testing.T) {
	r := rand.New(rand.NewSource(6))
	for range 40 {
		from, n := r.Intn(6), 1+r.Intn(10)
		d := crashtest.Device(t, 20, 0xEE)
		l, _ := mustOpen(t, d, from, n, 1)
		for range 60 {
			l.Append([]string{xs(r.Intn(700))})
		}
		if l.Room() != 0 {
			l.Append(nil)
		}
		got := crashtest.Content(t, d)
		if bytes.Trim(got[:from*256], "\xEE") != nil || bytes.Trim(got[(from+n)*256:], "\xEE") != nil {
			t.Fatal(from, n, "sectors of others were changed")
		}
	}
}

func TestFull(t *testing.T) {
	for room := range 6 {
		d := crashtest.Device(t, 10, 0)
		l, _ := mustOpen(t, d, 1, room+1, 8)
		mustAppend(t, l, "ahead")
		before := crashtest.Content(t, d)
		d.Fuse(0) // Nothing is written, nor flushed.
		for need := room + 1; need < 10; need++ {
			for _, records := range [][]string{{xs(need*256 - 28)}, {xs(max(need*256-28-255, 0))}, {"", xs(need*256 - 32)}} {
				if e := l.Append(records); e != api.ErrFull || l.Room() != room || l.Next() != 1 {
					t.Fatal(room, need, e, l.Room(), l.Next())
				}
			}
		}
		if d.Dead() || d.Pending() != 0 || !bytes.Equal(crashtest.Content(t, d), before) {
			t.Error(room, "the device was touched")
		}
		d.Fuse(-1)
		if room == 0 {
			continue
		}
		mustAppend(t, l, xs(room*256-28))
		if l.Room() != 0 || l.Next() != 2 {
			t.Error(room, l.Room(), l.Next())
		}
		tells(t, d, 1, room+1, 8, []string{"ahead"}, []string{xs(room*256 - 28)})
		if e := l.Append(nil); e != api.ErrFull {
			t.Error(room, e)
		}
	}
}

func TestADeadLogStaysDead(t *testing.T) {
	for fuse := range 5 {
		d := crashtest.Device(t, 8, 0)
		l, _ := mustOpen(t, d, 0, 4, 0)
		mustAppend(t, l, "a")
		d.Fuse(fuse)
		if e := l.Append([]string{xs(300)}); e != api.ErrDead {
			t.Fatal(fuse, e)
		}
		for range 3 {
			// ErrDead comes ahead of ErrFull.
			for _, records := range [][]string{nil, {"b"}, {xs(300)}, {xs(5000)}} {
				if e := l.Append(records); e != api.ErrDead {
					t.Error(fuse, e)
				}
			}
			if l.Next() != 1 || l.Room() != 3 {
				t.Error(fuse, l.Next(), l.Room())
			}
			d.Crash(nil)
		}
		if d.Pending() != 0 {
			t.Error(fuse, "a dead log writes")
		}
		tells(t, d, 0, 4, 0, []string{"a"})
		m, _ := mustOpen(t, d, 0, 4, 0)
		mustAppend(t, m, "b")
		if e := l.Append(nil); e != api.ErrDead {
			t.Error(fuse, e)
		}
		tells(t, d, 0, 4, 0, []string{"a"}, []string{"b"})
	}
}

func TestADeviceThatDiedElsewhere(t *testing.T) {
	d := crashtest.Device(t, 4, 0)
	l, _ := mustOpen(t, d, 0, 2, 0)
	mustAppend(t, l, "a")
	d.Fuse(0)
	d.Flush()
	// It is full before the device is asked.
	if e := l.Append([]string{xs(300)}); e != api.ErrFull {
		t.Error(e)
	}
	d.Crash(nil)
	mustAppend(t, l, "b")
	tells(t, d, 0, 2, 0, []string{"a"}, []string{"b"})

	d = crashtest.Device(t, 4, 0)
	l, _ = mustOpen(t, d, 0, 2, 0)
	d.Fuse(0)
	d.Flush()
	if e := l.Append(nil); e != api.ErrDead {
		t.Error(e)
	}
	d.Crash(nil)
	if e := l.Append(nil); e != api.ErrDead {
		t.Error("the device's error is forgotten", e)
	}
}

func TestALogGoesOnBehindOpen(t *testing.T) {
	d := crashtest.Device(t, 40, 0)
	var want [][]string
	for i := range 20 {
		l, all := mustOpen(t, d, 3, 30, 2)
		if !sameFrames(all, want) || l.Next() != uint64(i) {
			t.Fatal(i, len(all), l.Next())
		}
		records := []string{xs(i * 17), "r"}
		mustAppend(t, l, records...)
		want = append(want, records)
	}
	tells(t, d, 3, 30, 2, want...)
}

// 6.4, W2, W3

// forgery is a record of which a sector of its frame is what another frame would be.
func forgery(epoch, number uint64, sectors int) string {
	return xs(228) + strings.Repeat(string(framed(epoch, number, "forged")), sectors)
}

// crashing makes an Append of the records on copies of d, cut off at every call and crashed in every way, and answers one of the devices that were left.
func crashing(t *testing.T, r *rand.Rand, d *disk.Dev, epoch uint64, were [][]string, records []string) (*disk.Dev, [][]string) {
	t.Helper()
	const from, n = 2, 12
	left, told := d, were
	seen := 0
	for fuse := range Need(records) + 5 {
		c := d.Copy()
		l, all := mustOpen(t, c, from, n, epoch)
		if !sameFrames(all, were) {
			t.Fatal("not what was appended")
		}
		c.Fuse(fuse)
		e := l.Append(records)
		for _, keep := range crashtest.Keeps(c.Pending()) {
			k := c.Copy()
			k.Crash(keep)
			_, all := mustOpen(t, k, from, n, epoch)
			whole := len(all) == len(were)+1
			if whole && !sameFrames(all, append(slices.Clip(were), records)) || !whole && !sameFrames(all, were) || e == api.OK && !whole {
				t.Fatal(fuse, keep, e, len(all), len(were))
			}
			goesOn(t, k.Copy(), from, n, epoch, all)
			seen++
			if r.Intn(seen) == 0 {
				left, told = k, all
			}
		}
	}
	return left, told
}

// goesOn fills what is left by frames of one sector, so that each sector comes to lie behind the last frame: nothing that a crash left there is told.
func goesOn(t *testing.T, d *disk.Dev, from, n int, epoch uint64, all [][]string) {
	t.Helper()
	l, _ := mustOpen(t, d, from, n, epoch)
	for l.Room() > 0 {
		mustAppend(t, l, "on")
		all = append(slices.Clip(all), []string{"on"})
		d.Crash(nil)
		tells(t, d, from, n, epoch, all...)
	}
}

func TestEveryCrash(t *testing.T) {
	r := rand.New(rand.NewSource(64))
	for range 25 {
		d := crashtest.Device(t, 16, 0xEE)
		// Each epoch is opened behind the end of the one before.
		for epoch := range uint64(3) {
			var were [][]string
			for range 8 {
				var records []string
				switch r.Intn(5) {
				case 0:
				case 1:
					records = []string{xs(r.Intn(228)), "", "short"}
				case 2:
					records = []string{xs(r.Intn(1200))}
				case 3:
					records = []string{forgery(epoch, uint64(len(were)+1+r.Intn(2)), 1+r.Intn(3))}
				case 4:
					records = []string{forgery(epoch+1, uint64(r.Intn(3)), 1+r.Intn(3))}
				}
				l, _ := mustOpen(t, d, 2, 12, epoch)
				if l.Room() < Need(records) {
					continue
				}
				d, were = crashing(t, r, d, epoch, were, records)
			}
		}
	}
}

func TestCrashesUnderALogThatGoesOn(t *testing.T) {
	d := crashtest.Device(t, 40, 0)
	l, _ := mustOpen(t, d, 0, 40, 0)
	var want [][]string
	for i := range 20 {
		records := []string{xs(i * 20)}
		mustAppend(t, l, records...)
		want = append(want, records)
		if d.Pending() != 0 {
			t.Fatal("an Append was answered ahead of its flush")
		}
		d.Crash([]bool{true, false, true})
		tells(t, d, 0, 40, 0, want...)
	}
}

func TestANewEpochForgetsTheOld(t *testing.T) {
	d := crashtest.Device(t, 10, 0)
	for epoch := range uint64(30) {
		l, all := mustOpen(t, d, 1, 8, epoch)
		if len(all) != 0 || l.Next() != 0 || l.Room() != 8 {
			t.Fatal(epoch, all)
		}
		// The frames of the epoch before lie where frames would begin, with the numbers that would come.
		for i := range 1 + epoch%8 {
			mustAppend(t, l, "r")
			tells(t, d, 1, 8, epoch, slices.Repeat([][]string{{"r"}}, int(i)+1)...)
		}
		if epoch > 0 {
			tells(t, d, 1, 8, epoch-1)
		}
		tells(t, d, 1, 8, epoch+1)
	}
}

// 6.5

func TestOpenReadsAlone(t *testing.T) {
	d := crashtest.Device(t, 12, 0)
	l, _ := mustOpen(t, d, 2, 8, 0)
	mustAppend(t, l, "a", "")
	mustAppend(t, l, xs(600))
	mustAppend(t, l)
	if e := d.Write(0, bytes.Repeat([]byte{7}, 256)); e != api.OK {
		t.Fatal(e)
	}
	d.Fuse(0)
	before := crashtest.Content(t, d)
	for range 3 {
		for epoch := range uint64(3) {
			var want [][]string
			if epoch == 0 {
				want = [][]string{{"a", ""}, {xs(600)}, nil}
			}
			tells(t, d, 2, 8, epoch, want...)
		}
		if d.Dead() || d.Pending() != 1 || !bytes.Equal(crashtest.Content(t, d), before) {
			t.Fatal("Open changes the device")
		}
	}
}

// 6.6

func TestRecordsAreCopied(t *testing.T) {
	d := crashtest.Device(t, 8, 0)
	l, _ := mustOpen(t, d, 0, 8, 0)
	room := []string{"a", "b", "c", "d"}
	if e := l.Append(room[:2]); e != api.OK {
		t.Fatal(e)
	}
	if Need(room[:2]) != 1 || !slices.Equal(room, []string{"a", "b", "c", "d"}) {
		t.Error("an argument, or the room behind it, was changed", room)
	}
	clear(room)
	mustAppend(t, l, "e")
	tells(t, d, 0, 8, 0, []string{"a", "b"}, []string{"e"})
}

func TestWhatIsToldIsNewMemory(t *testing.T) {
	d := crashtest.Device(t, 8, 0)
	l, _ := mustOpen(t, d, 0, 8, 0)
	mustAppend(t, l, "a", "b", "c")
	mustAppend(t, l, "d")
	mustAppend(t, l, "e", "f")
	_, x := mustOpen(t, d, 0, 8, 0)
	_, y := mustOpen(t, d, 0, 8, 0)
	for _, records := range x {
		records = records[:cap(records)]
		for i := range records {
			records[i] = "other"
		}
		if !sameFrames(y, [][]string{{"a", "b", "c"}, {"d"}, {"e", "f"}}) {
			t.Fatal(y)
		}
	}
	if x[1][0] != "other" || x[2][1] != "other" {
		t.Error(x)
	}
	x = x[:cap(x)]
	clear(x)
	if y[0][0] != "a" {
		t.Error(y)
	}
	tells(t, d, 0, 8, 0, []string{"a", "b", "c"}, []string{"d"}, []string{"e", "f"})
}

// hostile opens a log on whatever bytes, and holds what it tells against the frames' bytes.
func hostile(t *testing.T, b []byte, epoch uint64) {
	d := crashtest.Device(t, 8, 0)
	b = append(slices.Clone(b), make([]byte, 8*256)...)[:8*256]
	crashtest.Lay(t, d, 0, b)
	for n := 1; n <= 8; n++ {
		l, all := mustOpen(t, d, 0, n, epoch)
		at := 0
		for i, records := range all {
			size := 24 + len(packed(records))
			if frame := framed(epoch, uint64(i), records...); !bytes.Equal(frame[:size], b[at:at+size]) {
				t.Fatal(n, i, "told, but not there")
			}
			at += Need(records) * 256
		}
		if l.Room() != n-at/256 || l.Next() != uint64(len(all)) {
			t.Fatal(n, l.Room(), l.Next())
		}
		goesOn(t, d.Copy(), 0, n, epoch, all)
	}
}

func TestHostileBytes(t *testing.T) {
	r := rand.New(rand.NewSource(66))
	for range 300 {
		var b []byte
		for i := range uint64(8) {
			b = append(b, framed(1, i, xs(r.Intn(600)))...)
		}
		for range r.Intn(4) {
			b[r.Intn(len(b))] = byte(r.Intn(256))
		}
		hostile(t, b, uint64(r.Intn(2)))
	}
}

func FuzzOpen(f *testing.F) {
	f.Add([]byte{}, uint64(0))
	f.Add(framed(0, 0, "a"), uint64(0))
	f.Add(slices.Concat(framed(3, 0, xs(300)), framed(3, 1)), uint64(3))
	f.Add(bytes.Repeat([]byte{0xFF}, 2048), uint64(math.MaxUint64))
	f.Fuzz(func(t *testing.T, b []byte, epoch uint64) {
		hostile(t, b, epoch)
	})
}

// The chapter's examples.

func TestExamples(t *testing.T) {
	d := crashtest.Device(t, 4, 0)
	l, all := mustOpen(t, d, 0, 4, 0)
	if len(all) != 0 || l.Next() != 0 || l.Room() != 4 {
		t.Error(all, l.Next(), l.Room())
	}
	if e := l.Append([]string{"a"}); e != api.OK || l.Room() != 3 || l.Next() != 1 {
		t.Error(e, l.Room(), l.Next())
	}
	long := []string{xs(1000)}
	if e := l.Append(long); e != api.ErrFull || Need(long) != 5 {
		t.Error(e, Need(long))
	}
	if _, all := mustOpen(t, d, 0, 4, 1); len(all) != 0 {
		t.Error(all)
	}
}
