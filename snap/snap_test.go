package snap

import (
	"bytes"
	"encoding/binary"
	"encoding/hex"
	"hash/crc32"
	"math"
	"math/big"
	"math/rand"
	"slices"
	"strings"
	"testing"

	"stowage/api"
	"stowage/crashtest"
	"stowage/disk"
)

// forged and slot tell straight from the chapter, by the library, what a slot holds.

// forged is a head that says whatever length, with the sum of what it says and of the state, and the state's sectors.
func forged(epoch, size uint64, state string) []byte {
	stamp := binary.BigEndian.AppendUint64(nil, epoch)
	stamp = binary.BigEndian.AppendUint64(stamp, size)
	sum := crc32.Checksum(append(slices.Clone(stamp), state...), crc32.MakeTable(crc32.Castagnoli))
	b := binary.BigEndian.AppendUint32([]byte("SNAP"), sum)
	b = append(b, stamp...)
	b = append(b, make([]byte, 256-24)...)
	b = append(b, state...)
	for len(b)%256 != 0 {
		b = append(b, 0)
	}
	return b
}

func slot(epoch uint64, state string) []byte {
	return forged(epoch, uint64(len(state)), state)
}

func mustSave(t testing.TB, d *disk.Dev, from, n int, epoch uint64, state string) {
	t.Helper()
	if e := Save(d, from, n, epoch, []byte(state)); e != api.OK {
		t.Fatal(from, n, epoch, len(state), e)
	}
}

func loads(t testing.TB, d *disk.Dev, from, n int, epoch uint64, state string) {
	t.Helper()
	if b, got, e := Load(d, from, n); string(b) != state || got != epoch || e != api.OK {
		t.Fatalf("%d bytes, epoch %d, error %d; want %d bytes, epoch %d", len(b), got, e, len(state), epoch)
	}
}

func loadsNone(t testing.TB, d *disk.Dev, from, n int, want api.Errno) {
	t.Helper()
	if b, epoch, e := Load(d, from, n); b != nil || epoch != 0 || e != want {
		t.Fatal(from, n, len(b), epoch, e, want)
	}
}

func xs(n int) string {
	return strings.Repeat("x", n)
}

// noise is n bytes that are like no others.
func noise(r *rand.Rand, n int) string {
	b := make([]byte, n)
	r.Read(b)
	return string(b)
}

// sizes are lengths of states at, ahead of and behind a sector's end.
var sizes = []int{0, 1, 2, 24, 255, 256, 257, 511, 512, 513, 767, 768, 769, 1000, 1024}

// epochs are such as show each byte of the eight, of both slots.
var epochs = []uint64{0, 1, 2, 3, 254, 255, 256, 257, 1 << 32, 1<<32 + 1, 0x0102030405060708, 0x0807060504030201, math.MaxUint64 - 1, math.MaxUint64}

// 7.1

func TestTheBytesOfAHead(t *testing.T) {
	d := crashtest.Device(t, 4, 0)
	mustSave(t, d, 0, 2, 0x0102030405060708, "abc")
	b, _ := d.Read(0)
	want := "534e4150" + "1da472c9" + "0102030405060708" + "0000000000000003"
	if got := hex.EncodeToString(b[:24]); got != want || !bytes.Equal(b[24:], make([]byte, 232)) {
		t.Error(got, b[24:])
	}
	b, _ = d.Read(1)
	if string(b) != "abc"+strings.Repeat("\x00", 253) {
		t.Error(b)
	}
}

func TestSlotsAsTheyLie(t *testing.T) {
	r := rand.New(rand.NewSource(71))
	for _, epoch := range epochs {
		for _, size := range sizes {
			for n := 1 + (size+255)/256; n < 7; n++ {
				d := crashtest.Device(t, 16, 0xEE)
				want := crashtest.Content(t, d)
				state := noise(r, size)
				mustSave(t, d, 3, n, epoch, state)
				at := 3
				if epoch%2 == 1 {
					at += n
				}
				// Nothing else is written, be it in the slot or outside.
				copy(want[at*256:], slot(epoch, state))
				if !bytes.Equal(crashtest.Content(t, d), want) {
					t.Fatal(epoch, size, n, "not the slot's bytes")
				}
				loads(t, d, 3, n, epoch, state)
			}
		}
	}
}

func TestFits(t *testing.T) {
	edges := []int{math.MinInt, math.MinInt + 1, -1 << 62, -257, -256, -255, -2, -1, 1 << 31, 1 << 32, 1 << 54, 1<<55 - 1, 1 << 55, 1<<55 + 1, 1 << 56, 1 << 61, 1<<62 - 1, 1 << 62, math.MaxInt - 256, math.MaxInt - 255, math.MaxInt - 1, math.MaxInt}
	var ns, all []int
	for n := range 12 {
		ns = append(ns, n)
	}
	ns = append(ns, edges...)
	for size := range 2600 {
		all = append(all, size)
	}
	all = append(all, edges...)
	for _, n := range ns {
		for _, size := range all {
			// As few sectors as hold size bytes are at most n - 1 just if they have room for them all.
			room := new(big.Int).Mul(big.NewInt(256), new(big.Int).Sub(big.NewInt(int64(n)), big.NewInt(1)))
			want := n >= 1 && size >= 0 && big.NewInt(int64(size)).Cmp(room) <= 0
			if Fits(n, size) != want {
				t.Error(n, size, !want)
			}
		}
	}
}

// 7.2, 7.3: the arguments

// lieNowhere are pairs of from and n of which a device of twelve sectors does not have both slots.
var lieNowhere = [][2]int{
	{0, 0}, {0, -1}, {0, math.MinInt}, {0, math.MinInt + 1}, {0, math.MinInt + 2}, {5, math.MinInt + 1}, {12, 0}, {3, -3}, {12, -6}, {12, -1},
	{-1, 1}, {-1, 2}, {-1, 6}, {-2, 1}, {-2, 2}, {-12, 6}, {math.MinInt, 1}, {math.MinInt, 6}, {math.MinInt, math.MaxInt},
	{0, 7}, {1, 6}, {2, 6}, {3, 5}, {11, 1}, {12, 1}, {10, 2}, {6, 6}, {0, 12}, {0, 13}, {24, 6},
	{0, math.MaxInt}, {1, math.MaxInt}, {11, math.MaxInt}, {0, 1 << 62}, {0, 1<<62 + 1}, {0, 1<<62 + 6}, {0, 1 << 61}, {0, 3 << 61},
	{1 << 62, 1}, {math.MaxInt, 1}, {math.MaxInt - 1, 1}, {math.MaxInt - 1, 2}, {math.MaxInt, math.MaxInt}, {1 << 62, 1 << 62}, {1 << 62, 1 << 61}, {math.MaxInt, math.MinInt}, {math.MinInt, math.MinInt}, {math.MinInt, 1 << 62},
}

func TestSlotsThatLieNowhere(t *testing.T) {
	d := crashtest.Device(t, 12, 0xEE)
	before := crashtest.Content(t, d)
	d.Fuse(0)
	for _, x := range lieNowhere {
		for _, dev := range []*disk.Dev{d, nil} {
			loadsNone(t, dev, x[0], x[1], api.ErrArg)
			// What does not fit either is ErrArg.
			for _, state := range []string{"", "a", xs(5000)} {
				for epoch := range uint64(2) {
					if e := Save(dev, x[0], x[1], epoch, []byte(state)); e != api.ErrArg {
						t.Error(x, epoch, len(state), e)
					}
				}
			}
		}
	}
	loadsNone(t, nil, 0, 1, api.ErrArg)
	if e := Save(nil, 0, 1, 0, nil); e != api.ErrArg {
		t.Error(e)
	}
	if d.Dead() || d.Pending() != 0 || !bytes.Equal(crashtest.Content(t, d), before) {
		t.Error("the device was touched")
	}
}

func TestSlotsOnEveryPiece(t *testing.T) {
	for size := 1; size <= 9; size++ {
		for from := range size + 1 {
			for n := 1; n <= size; n++ {
				d := crashtest.Device(t, size, 0)
				if from+2*n > size {
					loadsNone(t, d, from, n, api.ErrArg)
					if e := Save(d, from, n, 0, nil); e != api.ErrArg {
						t.Error(size, from, n, e)
					}
					continue
				}
				loadsNone(t, d, from, n, api.ErrNone)
				mustSave(t, d, from, n, 6, xs(256*(n-1)))
				loads(t, d, from, n, 6, xs(256*(n-1)))
				mustSave(t, d, from, n, 7, strings.Repeat("y", 256*(n-1)))
				loads(t, d, from, n, 7, strings.Repeat("y", 256*(n-1)))
			}
		}
	}
}

// 7.2

func TestFull(t *testing.T) {
	for n := 1; n <= 5; n++ {
		d := crashtest.Device(t, 12, 0xEE)
		mustSave(t, d, 1, n, 4, "")
		before := crashtest.Content(t, d)
		d.Fuse(0)
		for _, more := range []int{1, 2, 255, 256, 257, 5000} {
			for epoch := uint64(4); epoch < 8; epoch++ {
				if e := Save(d, 1, n, epoch, []byte(xs(256*(n-1)+more))); e != api.ErrFull {
					t.Error(n, more, epoch, e)
				}
			}
		}
		if d.Dead() || d.Pending() != 0 || !bytes.Equal(crashtest.Content(t, d), before) {
			t.Error(n, "the device was touched")
		}
		loads(t, d, 1, n, 4, "")
	}
}

func TestAWholeDevice(t *testing.T) {
	r := rand.New(rand.NewSource(72))
	d := crashtest.Device(t, 4096, 0)
	a, b := noise(r, 2047*256), noise(r, 2047*256)
	mustSave(t, d, 0, 2048, 1, a)
	loads(t, d, 0, 2048, 1, a)
	mustSave(t, d, 0, 2048, 2, b)
	loads(t, d, 0, 2048, 2, b)
	if !bytes.Equal(crashtest.Content(t, d), slices.Concat(slot(2, b), slot(1, a))) {
		t.Error("not both slots")
	}
	if e := Save(d, 0, 2048, 3, make([]byte, 2047*256+1)); e != api.ErrFull {
		t.Error(e)
	}
}

func TestTheCallsOfASave(t *testing.T) {
	r := rand.New(rand.NewSource(73))
	for _, size := range sizes {
		for epoch := uint64(8); epoch < 10; epoch++ {
			const from, n = 2, 6
			at := from + int(epoch-8)*n
			state := noise(r, size)
			b := slot(epoch, state)
			crashtest.Calls(t, crashtest.Device(t, 16, 0xEE), func(c *disk.Dev) api.Errno {
				return Save(c, from, n, epoch, []byte(state))
			}, crashtest.Writes(at+1, b[256:]), crashtest.Writes(at, b[:256]))
		}
	}
}

func TestSaveOnADeadDevice(t *testing.T) {
	d := crashtest.Device(t, 12, 0)
	mustSave(t, d, 0, 3, 1, "abc")
	d.Fuse(0)
	d.Flush()
	for _, state := range []string{"", "a", xs(512)} {
		if e := Save(d, 0, 3, 2, []byte(state)); e != api.ErrDead {
			t.Error(len(state), e)
		}
	}
	if e := Save(d, 0, 3, 2, []byte(xs(513))); e != api.ErrFull {
		t.Error("what does not fit comes ahead of the device", e)
	}
	for _, x := range lieNowhere {
		if e := Save(d, x[0], x[1], 2, nil); e != api.ErrArg {
			t.Error("the arguments come ahead of the device", x, e)
		}
		loadsNone(t, d, x[0], x[1], api.ErrArg)
	}
	loadsNone(t, d, 0, 3, api.ErrDead)
	d.Crash(nil)
	loads(t, d, 0, 3, 1, "abc")
	mustSave(t, d, 0, 3, 2, "def")
	loads(t, d, 0, 3, 2, "def")
}

// 7.3

func TestLoadTellsTheGreaterEpoch(t *testing.T) {
	for _, a := range epochs {
		for _, b := range epochs {
			if a%2 == b%2 {
				continue
			}
			d := crashtest.Device(t, 10, 0xEE)
			mustSave(t, d, 1, 4, a, "first")
			loads(t, d, 1, 4, a, "first")
			mustSave(t, d, 1, 4, b, "second")
			if a > b {
				loads(t, d, 1, 4, a, "first")
			} else {
				loads(t, d, 1, 4, b, "second")
			}
		}
	}
}

func TestASlotIsWrittenOver(t *testing.T) {
	r := rand.New(rand.NewSource(74))
	d := crashtest.Device(t, 14, 0xEE)
	var states []string
	for epoch := range uint64(200) {
		state := noise(r, r.Intn(5*256+1))
		mustSave(t, d, 1, 6, epoch, state)
		loads(t, d, 1, 6, epoch, state)
		states = append(states, state)
	}
	// What was saved last in a slot is what it holds, be its epoch lower.
	mustSave(t, d, 1, 6, 197, "back")
	loads(t, d, 1, 6, 198, states[198])
	mustSave(t, d, 1, 6, 0, "to the beginning")
	loads(t, d, 1, 6, 197, "back")
}

// TestWhatIsNotWhole lays something into either slot, beside a whole one of a lower epoch and beside nothing.
func TestWhatIsNotWhole(t *testing.T) {
	const from, n = 2, 4
	for number := range uint64(2) {
		epoch := 4 + number
		state := strings.Repeat("state!", 50)
		good := slot(epoch, state)
		with := func(at int, s string) []byte {
			b := slices.Clone(good)
			copy(b[at:], s)
			return b
		}
		size := func(n uint64) []byte {
			b := slices.Clone(good)
			binary.BigEndian.PutUint64(b[16:], n)
			return b
		}
		for name, b := range map[string][]byte{
			"noughts":                     make([]byte, 1024),
			"ones":                        bytes.Repeat([]byte{0xFF}, 1024),
			"no mark":                     with(0, "\x00\x00\x00\x00"),
			"another mark":                with(0, "snap"),
			"half a mark":                 with(0, "SNA\x00"),
			"the mark turned round":       with(0, "PANS"),
			"no sum":                      with(4, "\x00\x00\x00\x00"),
			"the sum turned round":        with(4, string([]byte{good[7], good[6], good[5], good[4]})),
			"the sum of the state alone":  with(4, string(binary.BigEndian.AppendUint32(nil, crc32.Checksum([]byte(state), crc32.MakeTable(crc32.Castagnoli))))),
			"another kind of sum":         with(4, string(binary.BigEndian.AppendUint32(nil, crc32.ChecksumIEEE(slices.Concat(good[8:24], []byte(state)))))),
			"the sum of whole sectors":    with(4, string(binary.BigEndian.AppendUint32(nil, crc32.Checksum(slices.Concat(good[8:24], good[256:]), crc32.MakeTable(crc32.Castagnoli))))),
			"another epoch":               with(8, string(slot(epoch+2, state)[8:16])),
			"the other slot's":            slot(epoch+1, state),
			"the other slot's, far away":  slot(math.MaxUint64-1+number^1, state),
			"a byte less":                 size(299),
			"a byte more":                 size(301),
			"no bytes":                    size(0),
			"as many as fit":              size(768),
			"a byte more than fit":        size(769),
			"a byte too many, and summed": forged(epoch, 769, xs(769))[:1024],
			"into the next slot":          size(4 * 256),
			"up to the device's end":      size(9 * 256),
			"beyond the device's end":     size(9*256 + 1),
			"2^32 and as many":            size(1<<32 + 300),
			"2^32 and as many, summed":    forged(epoch, 1<<32+300, state),
			"as long as an int":           size(math.MaxInt),
			"longer than an int":          size(math.MaxInt + 1),
			"longer, and summed":          forged(epoch, 1<<63, ""),
			"2^63 and as many, summed":    forged(epoch, 1<<63+300, state),
			"as long as can be":           size(math.MaxUint64),
			"below 0, and summed":         forged(epoch, math.MaxUint64, ""),
			"another state":               with(256, "State!"),
			"another second sector":       with(512, "?"),
			"begins a byte later":         append([]byte{0}, good[:len(good)-1]...),
			"begins a byte sooner":        append(slices.Clone(good[1:]), 0),
			"begins a sector later":       append(make([]byte, 256), good...),
			"a head alone":                append(slices.Clone(good[:256]), make([]byte, 512)...),
			"a state without its head":    append(make([]byte, 256), good[256:]...),
		} {
			t.Run(name, func(t *testing.T) {
				d := crashtest.Device(t, 12, 0)
				crashtest.Lay(t, d, from+int(number)*n, b)
				loadsNone(t, d, from, n, api.ErrNone)
				crashtest.Lay(t, d, from+int(number^1)*n, slot(number^1, "lower"))
				loads(t, d, from, n, number^1, "lower")
				crashtest.Lay(t, d, from+int(number)*n, good)
				loads(t, d, from, n, epoch, state)
			})
		}
	}
}

func TestALengthThatJustFits(t *testing.T) {
	for n := 1; n <= 5; n++ {
		for number := range uint64(2) {
			fits, more := xs(256*(n-1)), xs(256*(n-1)+1)
			d := crashtest.Device(t, 14, 0)
			crashtest.Lay(t, d, 1+int(number)*n, slot(number, fits))
			loads(t, d, 1, n, number, fits)
			// Both sectors are the device's, but one of them is none of the slot's.
			d = crashtest.Device(t, 14, 0)
			crashtest.Lay(t, d, 1+int(number)*n, slot(number, more))
			loadsNone(t, d, 1, n, api.ErrNone)
		}
	}
}

func TestEveryBitCounts(t *testing.T) {
	r := rand.New(rand.NewSource(75))
	for _, size := range []int{0, 1, 255, 256, 300} {
		for number := range uint64(2) {
			state := noise(r, size)
			whole := slot(2+number, state)
			for bit := range 8 * len(whole) {
				b := slices.Clone(whole)
				b[bit/8] ^= 1 << (bit % 8)
				d := crashtest.Device(t, 8, 0)
				crashtest.Lay(t, d, int(number)*4, b)
				if at := bit / 8; at < 24 || at >= 256 && at < 256+size {
					loadsNone(t, d, 0, 4, api.ErrNone)
				} else {
					// The noughts behind the head and behind the state are not asked for.
					loads(t, d, 0, 4, 2+number, state)
				}
			}
		}
	}
}

func TestSlotsTurnedRound(t *testing.T) {
	d := crashtest.Device(t, 8, 0)
	crashtest.Lay(t, d, 0, slot(3, "three"))
	crashtest.Lay(t, d, 4, slot(2, "two"))
	loadsNone(t, d, 0, 4, api.ErrNone)
	crashtest.Lay(t, d, 0, slot(2, "two"))
	loads(t, d, 0, 4, 2, "two")
	crashtest.Lay(t, d, 4, slot(1, "one"))
	loads(t, d, 0, 4, 2, "two")
}

func TestLoadReadsAlone(t *testing.T) {
	d := crashtest.Device(t, 12, 0)
	mustSave(t, d, 1, 5, 6, xs(700))
	if e := d.Write(0, bytes.Repeat([]byte{7}, 256)); e != api.OK {
		t.Fatal(e)
	}
	// What is not yet flushed is read, too.
	if e := d.Write(6, slot(7, "")); e != api.OK {
		t.Fatal(e)
	}
	d.Fuse(0)
	before := crashtest.Content(t, d)
	for range 3 {
		loads(t, d, 1, 5, 7, "")
		loadsNone(t, d, 2, 5, api.ErrNone)
	}
	if d.Dead() || d.Pending() != 2 || !bytes.Equal(crashtest.Content(t, d), before) {
		t.Error("Load changes the device")
	}
	d.Crash(nil)
	loads(t, d, 1, 5, 6, xs(700))
}

// 7.4, W2, W3

// crashing makes a Save of epoch e + 1 on copies of d, where e is saved, cut off at every call and crashed in every way, and answers one of the devices that were left.
func crashing(t *testing.T, r *rand.Rand, d *disk.Dev, epoch uint64, old, state string) *disk.Dev {
	t.Helper()
	const from, n = 2, 5
	left := d
	seen := 0
	for fuse := range len(slot(0, state))/256 + 4 {
		c := d.Copy()
		c.Fuse(fuse)
		saved := Save(c, from, n, epoch+1, []byte(state)) == api.OK
		for _, keep := range crashtest.Keeps(c.Pending()) {
			k := c.Copy()
			k.Crash(keep)
			b, got, e := Load(k, from, n)
			isOld, isNew := got == epoch && string(b) == old, got == epoch+1 && string(b) == state
			if e != api.OK || !isOld && !isNew || saved && !isNew {
				t.Fatal(fuse, keep, e, got, len(b))
			}
			// The Save is made again behind the crash, wholly.
			again := k.Copy()
			mustSave(t, again, from, n, epoch+1, state)
			again.Crash(nil)
			loads(t, again, from, n, epoch+1, state)
			seen++
			if isOld && r.Intn(seen) == 0 {
				left = k
			}
		}
	}
	return left
}

// likely is a state that crashes might mistake: heads that would be whole, states that are nearly the one before, whatever else.
func likely(r *rand.Rand, epoch uint64, old string) string {
	switch r.Intn(6) {
	case 0:
		return ""
	case 1:
		return noise(r, r.Intn(1025))
	case 2:
		return strings.Repeat("\x00", r.Intn(1025))
	case 3:
		return string(slot(epoch+2*uint64(r.Intn(3)), noise(r, r.Intn(513))))
	case 4:
		return xs(256 * r.Intn(5))
	}
	b := []byte(old)
	if len(b) > 0 {
		b[r.Intn(len(b))] ^= 1
	}
	return string(b)
}

func TestEveryCrash(t *testing.T) {
	r := rand.New(rand.NewSource(76))
	for range 30 {
		d := crashtest.Device(t, 14, 0xEE)
		epoch := r.Uint64() >> 1 >> r.Intn(63)
		old := likely(r, epoch, "")
		mustSave(t, d, 2, 5, epoch, old)
		for range 8 {
			// Some Saves of the next epoch were tried, and crashed, before one went well.
			for range r.Intn(3) {
				d = crashing(t, r, d, epoch, old, likely(r, epoch+1, old))
				loads(t, d, 2, 5, epoch, old)
			}
			state := likely(r, epoch+1, old)
			crashing(t, r, d, epoch, old, state)
			mustSave(t, d, 2, 5, epoch+1, state)
			epoch, old = epoch+1, state
			if d.Pending() != 0 {
				t.Fatal("a Save was answered ahead of its flush")
			}
		}
	}
}

func TestTheFirstSaveCrashes(t *testing.T) {
	for _, size := range []int{0, 1, 256, 600, 1024} {
		for fuse := range len(slot(0, xs(size)))/256 + 2 {
			d := crashtest.Device(t, 12, 0xEE)
			d.Fuse(fuse)
			if e := Save(d, 1, 5, 0, []byte(xs(size))); e != api.ErrDead {
				t.Fatal(size, fuse, e)
			}
			for _, keep := range crashtest.Keeps(d.Pending()) {
				c := d.Copy()
				c.Crash(keep)
				b, epoch, e := Load(c, 1, 5)
				if whole := e == api.OK && string(b) == xs(size) && epoch == 0; !whole && (b != nil || epoch != 0 || e != api.ErrNone) {
					t.Fatal(size, fuse, keep, len(b), epoch, e)
				}
			}
		}
	}
}

// 7.5

func TestTheStateIsCopied(t *testing.T) {
	for _, size := range []int{0, 1, 255, 256, 300} {
		d := crashtest.Device(t, 8, 0)
		room := []byte(strings.Repeat("s", size) + strings.Repeat("r", 600))
		if e := Save(d, 0, 4, 0, room[:size]); e != api.OK {
			t.Fatal(e)
		}
		if string(room) != strings.Repeat("s", size)+strings.Repeat("r", 600) {
			t.Error(size, "the state, or the room behind it, was changed")
		}
		clear(room)
		loads(t, d, 0, 4, 0, strings.Repeat("s", size))
	}
}

func TestWhatIsToldIsNewMemory(t *testing.T) {
	for _, size := range []int{0, 1, 255, 256, 300} {
		d := crashtest.Device(t, 8, 0)
		mustSave(t, d, 0, 4, 0, xs(size))
		a, _, _ := Load(d, 0, 4)
		b, _, _ := Load(d, 0, 4)
		clear(a[:cap(a)])
		if string(b) != xs(size) {
			t.Error(size, "two answers share memory")
		}
		loads(t, d, 0, 4, 0, xs(size))
	}
}

// hostile loads from whatever bytes, holds what is told against the slots' bytes, and saves the epoch behind it.
func hostile(t *testing.T, b []byte) {
	b = append(slices.Clone(b), make([]byte, 8*256)...)[:8*256]
	d := crashtest.Device(t, 8, 0)
	crashtest.Lay(t, d, 0, b)
	for n := 1; n <= 4; n++ {
		for from := range 9 - 2*n {
			state, epoch, e := Load(d, from, n)
			if e == api.ErrNone {
				continue
			}
			at := (from + int(epoch%2)*n) * 256
			want := slot(epoch, string(state))
			size := 256 + len(state)
			if e != api.OK || size > n*256 || !bytes.Equal(b[at:at+24], want[:24]) || !bytes.Equal(b[at+256:at+size], want[256:size]) {
				t.Fatal(from, n, e, epoch, len(state), "told, but not there")
			}
			if epoch < math.MaxUint64 {
				c := d.Copy()
				mustSave(t, c, from, n, epoch+1, xs(256*(n-1)))
				loads(t, c, from, n, epoch+1, xs(256*(n-1)))
			}
		}
	}
}

func TestHostileBytes(t *testing.T) {
	r := rand.New(rand.NewSource(77))
	for range 500 {
		var b []byte
		for len(b) < 2048 {
			b = append(b, forged(uint64(r.Intn(4)), uint64(r.Intn(600)), noise(r, r.Intn(600)))...)
			b = append(b, slot(uint64(r.Intn(4)), noise(r, r.Intn(600)))...)
		}
		for range r.Intn(3) {
			b[r.Intn(2048)] = byte(r.Intn(256))
		}
		hostile(t, b)
	}
}

func FuzzLoad(f *testing.F) {
	f.Add([]byte{})
	f.Add(slot(0, "abc"))
	f.Add(slices.Concat(slot(0, xs(256)), slot(1, xs(600))))
	f.Add(forged(0, math.MaxUint64, ""))
	f.Add(bytes.Repeat([]byte{0xFF}, 2048))
	f.Fuzz(hostile)
}

// The chapter's examples.

func TestExamples(t *testing.T) {
	d := crashtest.Device(t, 8, 0)
	loadsNone(t, d, 0, 4, api.ErrNone)
	mustSave(t, d, 0, 4, 1, "abc")
	if e := Save(d, 0, 4, 2, nil); e != api.OK {
		t.Error(e)
	}
	loads(t, d, 0, 4, 2, "")
	if !Fits(2, 256) || Fits(2, 257) {
		t.Error("Fits")
	}
}
