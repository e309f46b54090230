package blob

import (
	"bytes"
	"encoding/hex"
	"math"
	"math/big"
	"math/rand"
	"slices"
	"testing"

	"stowage/api"
	"stowage/crashtest"
	"stowage/disk"
)

// noise is n bytes that are like no others.
func noise(r *rand.Rand, n int) []byte {
	b := make([]byte, n)
	r.Read(b)
	return b
}

func open(t testing.TB, d *disk.Dev, from, n int, live ...api.Ref) *Blobs {
	t.Helper()
	b, e := Open(d, from, n, live)
	if e != api.OK || b == nil {
		t.Fatal(from, n, live, e)
	}
	return b
}

// opensNot fails the test unless Open tells this error, and nothing beside it.
func opensNot(t testing.TB, d *disk.Dev, from, n int, live []api.Ref, want api.Errno) {
	t.Helper()
	if b, e := Open(d, from, n, live); b != nil || e != want {
		t.Error(from, n, live, e, want)
	}
}

func writes(t testing.TB, b *Blobs, data []byte, want api.Ref) {
	t.Helper()
	if r, e := b.Write(data); r != want || e != api.OK {
		t.Fatal(len(data), r, e, want)
	}
}

func writesNot(t testing.TB, b *Blobs, data []byte, want api.Errno) {
	t.Helper()
	free := b.Free()
	if r, e := b.Write(data); r != (api.Ref{}) || e != want || b.Free() != free {
		t.Fatal(len(data), r, e, want, b.Free(), free)
	}
}

func reads(t testing.TB, b *Blobs, r api.Ref, off int, want []byte) {
	t.Helper()
	if got, e := b.Read(r, off, len(want)); e != api.OK || !bytes.Equal(got, want) {
		t.Fatal(r, off, len(want), e, len(got))
	}
}

func readsNot(t testing.TB, b *Blobs, r api.Ref, off, n int, want api.Errno) {
	t.Helper()
	if got, e := b.Read(r, off, n); got != nil || e != want {
		t.Fatal(r, off, n, len(got), e, want)
	}
}

// drops fails the test unless Drop tells this error, and then so many units are free.
func drops(t testing.TB, b *Blobs, r api.Ref, want api.Errno, free int) {
	t.Helper()
	if e := b.Drop(r); e != want || b.Free() != free {
		t.Fatal(r, e, want, b.Free(), free)
	}
}

// change turns bits of a byte of the device, and makes that last.
func change(t testing.TB, d *disk.Dev, sector, at int, bits byte) {
	t.Helper()
	b, e := d.Read(sector)
	if e != api.OK {
		t.Fatal(sector, e)
	}
	b[at] ^= bits
	crashtest.Lay(t, d, sector, b)
}

// sizes are lengths of data at, ahead of and behind a unit's end.
var sizes = []int{1, 2, 4, 251, 252, 253, 255, 256, 257, 503, 504, 505, 755, 756, 757, 1000, 1008}

// places are places in data at, ahead of and behind a unit's end.
var places = []int{0, 1, 2, 125, 250, 251, 252, 253, 254, 256, 300, 502, 503, 504, 505, 506, 600, 755, 756, 757, 999, 1000, 1007, 1008}

// wide are ints that no count and no number of a unit can be.
var wide = []int{math.MinInt, math.MinInt + 1, math.MinInt + 252, math.MinInt32 - 1, math.MinInt32, -1 << 62, -4097, -253, -252, -251, -2, -1,
	1 << 31, 1 << 32, 1<<32 + 1, 1 << 62, 1<<62 + 1, math.MaxInt - 252, math.MaxInt - 251, math.MaxInt - 1, math.MaxInt}

// 11.1

func TestSectors(t *testing.T) {
	for size := range 252 * 20 {
		want := size / 252
		if size%252 != 0 {
			want++
		}
		if got := Sectors(size); got != want {
			t.Fatal(size, got, want)
		}
	}
	for units := 1; units < 1<<40; units = units*3 + 1 {
		for _, x := range [][2]int{{-1, 0}, {0, 0}, {1, 1}} {
			if got := Sectors(units*252 + x[0]); got != units+x[1] {
				t.Fatal(units, x, got)
			}
		}
	}
	for _, size := range append(slices.Clone(wide), 0, -3, -1000000) {
		want := new(big.Int)
		if size > 0 {
			want.Add(big.NewInt(int64(size)), big.NewInt(251))
			want.Div(want, big.NewInt(252))
		}
		if got := Sectors(size); big.NewInt(int64(got)).Cmp(want) != 0 {
			t.Error(size, got, want)
		}
	}
}

func TestTheBytesOfASector(t *testing.T) {
	d := crashtest.Device(t, 4, 0xEE)
	b := open(t, d, 1, 3)
	writes(t, b, slices.Concat(bytes.Repeat([]byte("x"), 252), []byte("abc")), api.Ref{Size: 255})
	for i, want := range []string{
		"7ffda5ff" + hex.EncodeToString(bytes.Repeat([]byte("x"), 252)),
		"94f04c50" + "616263" + hex.EncodeToString(make([]byte, 249)),
	} {
		if s, e := d.Read(1 + i); e != api.OK || hex.EncodeToString(s) != want {
			t.Errorf("%d %v %x", i, e, s)
		}
	}
}

func TestUnitsAsTheyLie(t *testing.T) {
	rnd := rand.New(rand.NewSource(111))
	for _, size := range sizes {
		for from := range 5 {
			for skip := range 3 {
				d := crashtest.Device(t, 12, 0xEE)
				want := crashtest.Content(t, d)
				var live []api.Ref
				if skip > 0 {
					live = append(live, api.Ref{Size: 252 * skip})
				}
				b := open(t, d, from, 12-from, live...)
				data := noise(rnd, size)
				writes(t, b, data, api.Ref{Start: skip, Size: size})
				// Nothing else is written, be it among the units or outside.
				copy(want[(from+skip)*256:], sealed(data))
				if d.Pending() != 0 || !bytes.Equal(crashtest.Content(t, d), want) {
					t.Fatal(size, from, skip, "not the units' bytes")
				}
				reads(t, b, api.Ref{Start: skip, Size: size}, 0, data)
			}
		}
	}
}

func TestWhatLiesThereIsRead(t *testing.T) {
	rnd := rand.New(rand.NewSource(112))
	for _, size := range sizes {
		d := crashtest.Device(t, 12, 0xEE)
		data := noise(rnd, size)
		crashtest.Lay(t, d, 5, sealed(data))
		r := api.Ref{Start: 3, Size: size}
		b := open(t, d, 2, 10, r)
		reads(t, b, r, 0, data)
		if b.Free() != 10-(size+251)/252 {
			t.Error(size, b.Free())
		}
	}
}

// 11.2: Open

func TestOpenOfNoSectors(t *testing.T) {
	for from := -7; from <= 7; from++ {
		for n := -7; n <= 7; n++ {
			d := crashtest.Device(t, 5, 0)
			opensNot(t, nil, from, n, nil, api.ErrArg)
			if from >= 0 && n >= 0 && from+n <= 5 {
				if b := open(t, d, from, n); b.Free() != n {
					t.Error(from, n, b.Free())
				}
				continue
			}
			opensNot(t, d, from, n, nil, api.ErrArg)
			// ErrArg comes ahead of ErrBad.
			opensNot(t, d, from, n, []api.Ref{{Size: -1}}, api.ErrArg)
		}
	}
}

func TestOpenOfWideInts(t *testing.T) {
	d := crashtest.Device(t, 5, 0)
	for _, far := range wide {
		for _, near := range append(slices.Clone(wide), 0, 1, 5, -far, 5-far, math.MaxInt-far, math.MinInt-far) {
			opensNot(t, d, far, near, nil, api.ErrArg)
			opensNot(t, d, near, far, nil, api.ErrArg)
		}
	}
}

func TestOpenOfTheWholeDevice(t *testing.T) {
	for _, n := range []int{1, 63, 64, 65, 4095, 4096} {
		d := crashtest.Device(t, n, 0)
		opensNot(t, d, 0, n+1, nil, api.ErrArg)
		opensNot(t, d, 1, n, nil, api.ErrArg)
		opensNot(t, d, n+1, 0, nil, api.ErrArg)
		if b := open(t, d, n, 0); b.Free() != 0 {
			t.Error(n, b.Free())
		}
		b := open(t, d, 0, n)
		data := bytes.Repeat([]byte("w"), n*252)
		writesNot(t, b, append(data, 'w'), api.ErrFull)
		writes(t, b, data, api.Ref{Size: n * 252})
		writesNot(t, b, []byte("w"), api.ErrFull)
		reads(t, b, api.Ref{Size: n * 252}, 0, data)
		drops(t, b, api.Ref{Size: n * 252}, api.OK, n)
	}
}

func TestOpenOfBadRefs(t *testing.T) {
	for _, live := range [][]api.Ref{
		{{Size: -1}},
		{{Start: 1, Size: -1}},
		{{Start: 1, Size: -252}},
		{{Size: math.MinInt}},
		{{Start: 1}},
		{{Start: -1}},
		{{Start: 8}},
		{{Start: math.MinInt}},
		{{Start: math.MaxInt}},
		{{Start: -1, Size: 1}},
		{{Start: -1, Size: 253}},
		{{Start: -8, Size: 252}},
		{{Start: 8, Size: 1}},
		{{Start: 7, Size: 253}},
		{{Size: 8*252 + 1}},
		{{Start: 1, Size: 8 * 252}},
		{{Start: math.MinInt, Size: 1}},
		{{Start: math.MaxInt, Size: 1}},
		{{Size: math.MaxInt}},
		{{Start: 1, Size: math.MaxInt}},
		{{Start: math.MaxInt, Size: math.MaxInt}},
		{{Start: 1 << 62, Size: 1 << 62}},
		{{Start: math.MaxInt - 1, Size: 3 * 252}},  // the number behind its units wraps round
		{{Start: math.MaxInt - 7, Size: 16 * 252}}, // and here to 8 units from 0 on
		{{Start: -1 << 32, Size: 1}},
		{{Start: 1 << 32, Size: 1}},
		{{Size: 1}, {Size: 1}},
		{{Size: 1}, {Size: 252}},
		{{Start: 1, Size: 300}, {Start: 2, Size: 1}},
		{{Start: 2, Size: 1}, {Start: 1, Size: 300}},
		{{Size: 600}, {Start: 1, Size: 1}},
		{{Start: 1, Size: 1}, {Size: 600}},
		{{Start: 7, Size: 1}, {}, {Start: 3, Size: 252}, {Size: 8 * 252}},
		{{Size: 252}, {Start: 1, Size: 252}, {Start: 2, Size: -1}},
		{{}, {Start: 1}},
	} {
		d := crashtest.Device(t, 40, 0)
		opensNot(t, d, 0, 8, live, api.ErrBad)
		opensNot(t, d, 16, 8, live, api.ErrBad) // that there are sectors ahead and behind makes no difference
		opensNot(t, d, 32, 8, live, api.ErrBad)
	}
	opensNot(t, crashtest.Device(t, 4, 0), 2, 0, []api.Ref{{Size: 1}}, api.ErrBad)
}

func TestOpenOfRefs(t *testing.T) {
	for _, x := range []struct {
		live []api.Ref
		free int
	}{
		{nil, 8},
		{[]api.Ref{}, 8},
		{[]api.Ref{{}}, 8},
		{[]api.Ref{{}, {}, {}}, 8},
		{[]api.Ref{{Size: 1}}, 7},
		{[]api.Ref{{Size: 252}}, 7},
		{[]api.Ref{{Size: 253}}, 6},
		{[]api.Ref{{Size: 8 * 252}}, 0},
		{[]api.Ref{{Size: 7*252 + 1}, {}}, 0},
		{[]api.Ref{{Start: 7, Size: 252}}, 7},
		{[]api.Ref{{Start: 6, Size: 253}, {Size: 1}, {Start: 1, Size: 504}}, 3},
		{[]api.Ref{{Start: 7, Size: 1}, {Start: 5, Size: 1}, {Start: 3, Size: 1}, {Start: 1, Size: 1}}, 4},
	} {
		d := crashtest.Device(t, 40, 0)
		b := open(t, d, 32, 8, x.live...)
		if b.Free() != x.free {
			t.Error(x.live, b.Free())
		}
		// Just what live takes is taken: each unit is asked by a Drop.
		for u := range 8 {
			taken := false
			for _, r := range x.live {
				taken = taken || r.Start <= u && u < r.Start+(r.Size+251)/252
			}
			c := open(t, d, 32, 8, x.live...)
			want, free := api.ErrArg, x.free
			if taken {
				want, free = api.OK, x.free+1
			}
			drops(t, c, api.Ref{Start: u, Size: 1}, want, free)
		}
	}
}

func TestOpenWritesNothing(t *testing.T) {
	for _, live := range [][]api.Ref{nil, {{Size: 600}}, {{}, {Start: 7, Size: 1}}, {{Size: -1}}} {
		d := crashtest.Device(t, 12, 0xEE)
		crashtest.Calls(t, d, func(c *disk.Dev) api.Errno {
			Open(c, 2, 8, live)
			return api.OK
		})
		// Nor is what waits made to last.
		d.Write(2, make([]byte, 256))
		Open(d, 2, 8, live)
		if d.Pending() != 1 {
			t.Error(live, d.Pending())
		}
		d.Crash(nil)
		if !bytes.Equal(crashtest.Content(t, d), bytes.Repeat([]byte{0xEE}, 12*256)) {
			t.Error(live, "the device was changed")
		}
	}
}

func TestOpenAsksNothingOfTheDevice(t *testing.T) {
	d := crashtest.Device(t, 12, 0)
	d.Fuse(0)
	d.Flush()
	b := open(t, d, 2, 8, api.Ref{Start: 1, Size: 300})
	if b.Free() != 6 {
		t.Error(b.Free())
	}
	opensNot(t, d, 2, 8, []api.Ref{{Start: 1}}, api.ErrBad)
	opensNot(t, d, 5, 8, nil, api.ErrArg)
}

// 11.2: Write

func TestTheCallsOfAWrite(t *testing.T) {
	rnd := rand.New(rand.NewSource(113))
	for _, size := range sizes {
		data := noise(rnd, size)
		for _, live := range [][]api.Ref{nil, {{Size: 300}}} {
			start := 2 * len(live)
			crashtest.Calls(t, crashtest.Device(t, 12, 0xEE), func(c *disk.Dev) api.Errno {
				b := open(t, c, 3, 8, live...)
				free := b.Free()
				r, e := b.Write(data)
				switch {
				case e == api.OK && (r != api.Ref{Start: start, Size: size} || b.Free() != free-(size+251)/252):
					t.Fatal(size, r, b.Free())
				case e != api.OK && (r != api.Ref{} || b.Free() != free):
					t.Fatal(size, "an error, but", r, b.Free(), free)
				}
				return e
			}, crashtest.Writes(3+start, sealed(data)))
		}
	}
}

func TestAWriteOfNoBytesCallsNothing(t *testing.T) {
	for _, none := range [][]byte{nil, {}} {
		crashtest.Calls(t, crashtest.Device(t, 12, 0xEE), func(c *disk.Dev) api.Errno {
			b := open(t, c, 3, 8, api.Ref{Size: 300})
			writes(t, b, none, api.Ref{})
			if b.Free() != 6 {
				t.Fatal(b.Free())
			}
			return api.OK
		})
		d := crashtest.Device(t, 12, 0xEE)
		d.Write(0, make([]byte, 256))
		writes(t, open(t, d, 3, 8), none, api.Ref{})
		if d.Pending() != 1 {
			t.Error("no bytes were flushed")
		}
		d.Fuse(0)
		d.Flush()
		writes(t, open(t, d, 3, 8), none, api.Ref{}) // of a dead device
		writes(t, open(t, d, 3, 0), none, api.Ref{}) // of no units
		full := open(t, d, 3, 8, api.Ref{Size: 8 * 252})
		writes(t, full, none, api.Ref{})
	}
}

func TestWriteTakesTheFirstRunThatIsLongEnough(t *testing.T) {
	live := []api.Ref{{Start: 1, Size: 1}, {Start: 4, Size: 252}, {Start: 9, Size: 1}} // free: 0, 2 and 3, 5 to 8
	for _, x := range []struct {
		size, start int
		e           api.Errno
	}{
		{1, 0, api.OK},
		{252, 0, api.OK},
		{253, 2, api.OK},
		{504, 2, api.OK},
		{505, 5, api.OK},
		{1008, 5, api.OK},
		{1009, 0, api.ErrFull}, // seven are free, but no five together
		{7 * 252, 0, api.ErrFull},
		{10 * 252, 0, api.ErrFull},
		{100000, 0, api.ErrFull},
	} {
		b := open(t, crashtest.Device(t, 12, 0), 1, 10, live...)
		if x.e != api.OK {
			writesNot(t, b, make([]byte, x.size), x.e)
			continue
		}
		writes(t, b, make([]byte, x.size), api.Ref{Start: x.start, Size: x.size})
	}
}

func TestAFullWriteCallsNothing(t *testing.T) {
	crashtest.Calls(t, crashtest.Device(t, 12, 0xEE), func(c *disk.Dev) api.Errno {
		b := open(t, c, 3, 8, api.Ref{Start: 4, Size: 1})
		writesNot(t, b, make([]byte, 4*252+1), api.ErrFull)
		return api.OK
	})
	d := crashtest.Device(t, 12, 0)
	d.Write(0, make([]byte, 256))
	writesNot(t, open(t, d, 3, 8), make([]byte, 8*252+1), api.ErrFull)
	if d.Pending() != 1 {
		t.Error("flushed")
	}
	// Where the device is dead, too, ErrFull comes first.
	d.Fuse(0)
	d.Flush()
	b := open(t, d, 3, 8)
	writesNot(t, b, make([]byte, 8*252+1), api.ErrFull)
	writesNot(t, b, make([]byte, 8*252), api.ErrDead)
	writesNot(t, open(t, d, 3, 0), []byte("a"), api.ErrFull)
}

func TestUnitsOfAWriteThatFailedAreTakenAgain(t *testing.T) {
	rnd := rand.New(rand.NewSource(114))
	first, second := noise(rnd, 700), noise(rnd, 600)
	for fuse := range 4 {
		d := crashtest.Device(t, 12, 0xEE)
		b := open(t, d, 3, 8)
		writes(t, b, first, api.Ref{Size: 700})
		d.Fuse(fuse)
		writesNot(t, b, second, api.ErrDead)
		writesNot(t, b, second, api.ErrDead)
		readsNot(t, b, api.Ref{Start: 3, Size: 600}, 0, 0, api.ErrArg)
		drops(t, b, api.Ref{Start: 3, Size: 600}, api.ErrArg, 5)
		d.Crash([]bool{true, false, true})
		writes(t, b, second, api.Ref{Start: 3, Size: 600})
		reads(t, b, api.Ref{Size: 700}, 0, first)
		reads(t, b, api.Ref{Start: 3, Size: 600}, 0, second)
	}
}

// 11.2: Read

func TestReadInPieces(t *testing.T) {
	rnd := rand.New(rand.NewSource(115))
	for _, size := range sizes {
		d := crashtest.Device(t, 12, 0xEE)
		b := open(t, d, 2, 9, api.Ref{Size: 1})
		data := noise(rnd, size)
		r := api.Ref{Start: 1, Size: size}
		writes(t, b, data, r)
		for _, off := range append(slices.Clone(places), size-1, size, size+1) {
			for _, n := range append(slices.Clone(places), size-1, size, size-off, size-off+1) {
				if n < 0 || off+n > size {
					readsNot(t, b, r, off, n, api.ErrArg)
					continue
				}
				reads(t, b, r, off, data[off:off+n])
			}
		}
	}
}

func TestReadByteByByte(t *testing.T) {
	data := noise(rand.New(rand.NewSource(116)), 1000)
	b := open(t, crashtest.Device(t, 4, 0), 0, 4)
	r := api.Ref{Size: 1000}
	writes(t, b, data, r)
	for off := range 1000 {
		reads(t, b, r, off, data[off:off+1])
		reads(t, b, r, off, nil)
		reads(t, b, r, off, data[off:])
		reads(t, b, r, 0, data[:off])
	}
}

func TestReadOfNoPiece(t *testing.T) {
	b := open(t, crashtest.Device(t, 12, 0), 2, 8)
	data := noise(rand.New(rand.NewSource(117)), 300)
	r := api.Ref{Size: 300}
	writes(t, b, data, r)
	for _, x := range [][2]int{{-1, 0}, {-1, 1}, {-1, 2}, {-1, 301}, {0, -1}, {1, -1}, {300, -1}, {300, 1}, {301, 0}, {301, -1}, {301, -301}, {0, 301}, {1, 300}, {299, 2}, {252, 49}, {504, 0}, {0, 504}} {
		readsNot(t, b, r, x[0], x[1], api.ErrArg)
	}
	for _, far := range wide {
		for _, near := range append(slices.Clone(wide), 0, 1, 299, 300, 301, -far, 1-far, 300-far, math.MaxInt-far, math.MinInt-far) {
			readsNot(t, b, r, far, near, api.ErrArg)
			readsNot(t, b, r, near, far, api.ErrArg)
			readsNot(t, b, api.Ref{}, far, near, api.ErrArg)
			readsNot(t, b, api.Ref{}, near, far, api.ErrArg)
		}
	}
	reads(t, b, r, 0, data)
	reads(t, b, r, 300, nil)
}

func TestReadOfTheRefOfNoBytes(t *testing.T) {
	for _, n := range []int{0, 8} {
		b := open(t, crashtest.Device(t, 12, 0), 2, n)
		reads(t, b, api.Ref{}, 0, nil)
		for _, x := range [][2]int{{0, 1}, {1, 0}, {0, -1}, {-1, 0}, {-1, 1}, {1, -1}} {
			readsNot(t, b, api.Ref{}, x[0], x[1], api.ErrArg)
		}
		drops(t, b, api.Ref{}, api.OK, n)
		drops(t, b, api.Ref{}, api.OK, n)
	}
}

// notTaken are Refs of which a Blobs of eight units, of which 1 to 3 and 6 are taken, has not all units, and those that are none.
func notTaken() []api.Ref {
	l := []api.Ref{
		{Size: 1}, {Size: 253}, {Size: 4 * 252}, {Start: 1, Size: 3*252 + 1}, {Start: 2, Size: 505}, {Start: 3, Size: 253},
		{Start: 4, Size: 1}, {Start: 5, Size: 253}, {Start: 6, Size: 253}, {Start: 6, Size: 504}, {Start: 7, Size: 1}, {Start: 7, Size: 253}, {Start: 8, Size: 1},
		{Start: 1, Size: 6 * 252}, {Size: 8 * 252}, {Size: 9 * 252}, {Start: -1, Size: 1}, {Start: -1, Size: 504}, {Start: -2, Size: 900},
		{Start: 1}, {Start: 6}, {Start: 8}, {Start: -1}, {Start: 1, Size: -1}, {Start: 6, Size: -1}, {Size: -1}, {Start: 6, Size: -252}, {Start: 7, Size: -252},
		{Start: math.MaxInt - 1, Size: 3 * 252}, {Start: math.MaxInt, Size: 5 * 252}, {Start: math.MaxInt, Size: 4 * 252},
	}
	for _, far := range wide {
		l = append(l, api.Ref{Start: far}, api.Ref{Size: far}, api.Ref{Start: 1, Size: far}, api.Ref{Start: 6, Size: far}, api.Ref{Start: far, Size: 1}, api.Ref{Start: far, Size: 756}, api.Ref{Start: far, Size: far}, api.Ref{Start: far, Size: -far}, api.Ref{Start: far, Size: math.MaxInt})
	}
	return l
}

func TestReadAndDropOfWhatIsNotTaken(t *testing.T) {
	d := crashtest.Device(t, 20, 0)
	crashtest.Lay(t, d, 0, bytes.Repeat(sealed(make([]byte, 252)), 20)) // every sector is whole
	b := open(t, d, 6, 8, api.Ref{Start: 1, Size: 600}, api.Ref{Start: 6, Size: 1})
	for _, r := range notTaken() {
		for _, x := range [][2]int{{0, 0}, {0, 1}, {1, 0}, {0, r.Size}, {r.Size, 0}, {-1, 0}, {0, -1}} {
			readsNot(t, b, r, x[0], x[1], api.ErrArg)
		}
		drops(t, b, r, api.ErrArg, 4)
	}
	// What was refused changed nothing.
	reads(t, b, api.Ref{Start: 1, Size: 600}, 0, make([]byte, 600))
	reads(t, b, api.Ref{Start: 6, Size: 1}, 0, make([]byte, 1))
	drops(t, b, api.Ref{Start: 1, Size: 600}, api.OK, 7)
	drops(t, b, api.Ref{Start: 6, Size: 1}, api.OK, 8)
}

// Of a Ref no more is asked than that its units are taken: it need not be one that Write told.
func TestRefsThatNoWriteTold(t *testing.T) {
	rnd := rand.New(rand.NewSource(118))
	first, second := noise(rnd, 300), noise(rnd, 252)
	filled := slices.Concat(first, make([]byte, 204), second)
	for start := range 3 {
		for size := 1; size <= (3-start)*252; size += 13 {
			b := open(t, crashtest.Device(t, 12, 0xEE), 2, 4)
			writes(t, b, first, api.Ref{Size: 300})
			writes(t, b, second, api.Ref{Start: 2, Size: 252})
			r := api.Ref{Start: start, Size: size}
			reads(t, b, r, 0, filled[start*252:start*252+size])
			drops(t, b, r, api.OK, 1+(size+251)/252)
			readsNot(t, b, r, 0, 0, api.ErrArg)
		}
	}
}

func TestASectorThatIsNotWhole(t *testing.T) {
	data := noise(rand.New(rand.NewSource(119)), 1100) // five units
	r := api.Ref{Start: 1, Size: 1100}
	for bad := range 5 {
		d := crashtest.Device(t, 12, 0xEE)
		b := open(t, d, 2, 8, api.Ref{Size: 1})
		writes(t, b, data, r)
		change(t, d, 3+bad, 77, 1)
		begin, end := bad*252, min((bad+1)*252, 1100)
		for _, off := range places {
			for _, n := range []int{0, 1, 2, 250, 251, 252, 253, 254, 500, 504, 505, 1100 - off} {
				switch {
				case off+n > 1100:
					readsNot(t, b, r, off, n, api.ErrArg)
				case n > 0 && off < end && off+n > begin:
					readsNot(t, b, r, off, n, api.ErrBad)
				default:
					reads(t, b, r, off, data[off:off+n])
				}
			}
		}
		change(t, d, 3+bad, 77, 1)
		reads(t, b, r, 0, data)
	}
}

func TestTheOrderOfErrorsOfARead(t *testing.T) {
	d := crashtest.Device(t, 12, 0xEE)
	b := open(t, d, 2, 8)
	r := api.Ref{Size: 600}
	writes(t, b, noise(rand.New(rand.NewSource(120)), 600), r)
	change(t, d, 2, 9, 1)
	change(t, d, 4, 9, 1)
	readsNot(t, b, r, 0, 601, api.ErrArg)
	readsNot(t, b, r, 0, 600, api.ErrBad)
	readsNot(t, b, r, 500, 100, api.ErrBad)
	d.Fuse(0)
	d.Flush()
	readsNot(t, b, r, 0, 601, api.ErrArg)
	readsNot(t, b, r, -1, 1, api.ErrArg)
	readsNot(t, b, api.Ref{Size: 757}, 0, 1, api.ErrArg)
	readsNot(t, b, r, 0, 600, api.ErrDead)
	readsNot(t, b, r, 252, 1, api.ErrDead)
	readsNot(t, b, r, 599, 1, api.ErrDead)
	reads(t, b, r, 0, nil) // no sector is read
	reads(t, b, r, 599, nil)
	reads(t, b, r, 600, nil)
	reads(t, b, api.Ref{}, 0, nil)
}

func TestReadAndDropWriteNothing(t *testing.T) {
	data := noise(rand.New(rand.NewSource(121)), 600)
	d := crashtest.Device(t, 12, 0xEE)
	crashtest.Lay(t, d, 3, sealed(data))
	crashtest.Calls(t, d, func(c *disk.Dev) api.Errno {
		r := api.Ref{Start: 1, Size: 600}
		b := open(t, c, 2, 8, r)
		reads(t, b, r, 0, data)
		drops(t, b, r, api.OK, 8)
		return api.OK
	})
	d.Write(0, make([]byte, 256))
	b := open(t, d, 2, 8, api.Ref{Start: 1, Size: 600})
	b.Read(api.Ref{Start: 1, Size: 600}, 0, 600)
	b.Drop(api.Ref{Start: 1, Size: 600})
	if d.Pending() != 1 {
		t.Error("flushed")
	}
}

// 11.2: Drop

func TestDrop(t *testing.T) {
	rnd := rand.New(rand.NewSource(122))
	for _, size := range sizes {
		b := open(t, crashtest.Device(t, 12, 0xEE), 2, 8)
		before, data, behind := noise(rnd, 252), noise(rnd, size), noise(rnd, 253)
		r := api.Ref{Start: 1, Size: size}
		units := (size + 251) / 252
		writes(t, b, before, api.Ref{Size: 252})
		writes(t, b, data, r)
		writes(t, b, behind, api.Ref{Start: 1 + units, Size: 253})
		drops(t, b, r, api.OK, 5)
		drops(t, b, r, api.ErrArg, 5)
		readsNot(t, b, r, 0, size, api.ErrArg)
		readsNot(t, b, r, 0, 0, api.ErrArg)
		reads(t, b, api.Ref{Size: 252}, 0, before)
		reads(t, b, api.Ref{Start: 1 + units, Size: 253}, 0, behind)
		writes(t, b, behind[:size%252+1], api.Ref{Start: 1, Size: size%252 + 1}) // the units are taken again
	}
}

func TestDropOfADeadDevice(t *testing.T) {
	d := crashtest.Device(t, 12, 0)
	b := open(t, d, 2, 8, api.Ref{Size: 300})
	d.Fuse(0)
	d.Flush()
	drops(t, b, api.Ref{Size: 300}, api.OK, 8)
	drops(t, b, api.Ref{Size: 300}, api.ErrArg, 8)
}

func TestDropOfAPiece(t *testing.T) {
	data := noise(rand.New(rand.NewSource(123)), 1000)
	b := open(t, crashtest.Device(t, 12, 0), 2, 8)
	writes(t, b, data, api.Ref{Size: 1000})
	drops(t, b, api.Ref{Start: 1, Size: 253}, api.OK, 6)
	readsNot(t, b, api.Ref{Size: 1000}, 0, 1, api.ErrArg)
	drops(t, b, api.Ref{Size: 1000}, api.ErrArg, 6)
	drops(t, b, api.Ref{Start: 2, Size: 504}, api.ErrArg, 6)
	reads(t, b, api.Ref{Size: 252}, 0, data[:252])
	reads(t, b, api.Ref{Start: 3, Size: 244}, 0, data[756:])
	drops(t, b, api.Ref{Size: 1}, api.OK, 7)
	drops(t, b, api.Ref{Start: 3, Size: 252}, api.OK, 8)
}

// 11.3

func TestEveryByteOfAUnit(t *testing.T) {
	for _, data := range [][]byte{noise(rand.New(rand.NewSource(124)), 300), make([]byte, 300)} {
		d := crashtest.Device(t, 4, 0)
		b := open(t, d, 1, 3)
		r := api.Ref{Size: 300}
		writes(t, b, data, r)
		for sector := range 2 {
			for at := range 256 { // the sum, the data, and the noughts behind it
				for _, bits := range []byte{1, 2, 4, 8, 16, 32, 64, 128, 255, byte(at) | 1} {
					change(t, d, 1+sector, at, bits)
					readsNot(t, b, r, 0, 300, api.ErrBad)
					readsNot(t, b, r, 252*sector, 1, api.ErrBad)
					reads(t, b, r, 252*(1-sector), data[252*(1-sector):][:48])
					change(t, d, 1+sector, at, bits)
				}
			}
		}
		reads(t, b, r, 0, data)
	}
}

func TestNoughts(t *testing.T) {
	d := crashtest.Device(t, 4, 0)
	r := api.Ref{Size: 300}
	b := open(t, d, 0, 4, r)
	readsNot(t, b, r, 0, 1, api.ErrBad)
	readsNot(t, b, r, 299, 1, api.ErrBad)
	reads(t, b, r, 0, nil)
	writes(t, b, make([]byte, 300), api.Ref{Start: 2, Size: 300})
	reads(t, b, api.Ref{Start: 2, Size: 300}, 0, make([]byte, 300))
	for sector := 2; sector < 4; sector++ {
		if s, _ := d.Read(sector); bytes.Equal(s[:4], make([]byte, 4)) {
			t.Error("the sum of noughts is nought")
		}
	}
}

func TestAnotherUnitsBytes(t *testing.T) {
	rnd := rand.New(rand.NewSource(125))
	d := crashtest.Device(t, 4, 0xEE)
	b := open(t, d, 0, 4)
	r := api.Ref{Size: 504}
	writes(t, b, noise(rnd, 504), r)
	s, _ := d.Read(0)
	// Half of a sector that was written, half of the one before.
	crashtest.Lay(t, d, 1, slices.Concat(s[:128], bytes.Repeat([]byte{0xEE}, 128)))
	readsNot(t, b, r, 252, 1, api.ErrBad)
	// Moved by a byte.
	crashtest.Lay(t, d, 1, append(slices.Clone(s[1:]), s[0]))
	readsNot(t, b, r, 252, 1, api.ErrBad)
	// The sum's bytes turned round.
	crashtest.Lay(t, d, 1, slices.Concat([]byte{s[3], s[2], s[1], s[0]}, s[4:]))
	readsNot(t, b, r, 252, 1, api.ErrBad)
}

// 11.5

func TestTheDataIsCopied(t *testing.T) {
	for _, size := range sizes {
		room := noise(rand.New(rand.NewSource(126)), size+600)
		was := slices.Clone(room)
		b := open(t, crashtest.Device(t, 12, 0), 2, 8)
		writes(t, b, room[:size], api.Ref{Size: size})
		if !bytes.Equal(room, was) {
			t.Error(size, "the data, or the room behind it, was changed")
		}
		clear(room)
		reads(t, b, api.Ref{Size: size}, 0, was[:size])
	}
}

func TestLiveIsCopied(t *testing.T) {
	room := []api.Ref{{Start: 1, Size: 300}, {}, {Start: 5, Size: 1}, {Start: 9, Size: 9}}
	was := slices.Clone(room)
	b := open(t, crashtest.Device(t, 12, 0), 2, 8, room[:3]...)
	if !slices.Equal(room, was) {
		t.Error("live, or the room behind it, was changed")
	}
	clear(room)
	drops(t, b, api.Ref{Start: 1, Size: 300}, api.OK, 7)
	drops(t, b, api.Ref{Start: 5, Size: 1}, api.OK, 8)
}

func TestWhatIsReadIsNewMemory(t *testing.T) {
	data := noise(rand.New(rand.NewSource(127)), 700)
	b := open(t, crashtest.Device(t, 12, 0), 2, 8)
	r := api.Ref{Size: 700}
	writes(t, b, data, r)
	for _, off := range []int{0, 1, 251, 252, 253, 500, 699, 700} {
		for _, n := range []int{0, 1, 252, 400, 700} {
			if off+n > 700 {
				continue
			}
			first, _ := b.Read(r, off, n)
			second, _ := b.Read(r, off, n)
			clear(first[:cap(first)])
			if !bytes.Equal(second, data[off:off+n]) {
				t.Error(off, n, "two answers share memory")
			}
			reads(t, b, r, 0, data)
		}
	}
}

// The chapter's examples.

func TestExamples(t *testing.T) {
	d := crashtest.Device(t, 40, 0)
	b := open(t, d, 32, 8)
	data := noise(rand.New(rand.NewSource(128)), 300)
	writes(t, b, data, api.Ref{Start: 0, Size: 300})
	writes(t, b, nil, api.Ref{Start: 0, Size: 0})
	if b.Free() != 6 {
		t.Error(b.Free())
	}
	reads(t, b, api.Ref{Start: 0, Size: 300}, 250, data[250:260])
	readsNot(t, b, api.Ref{Start: 0, Size: 300}, 0, 301, api.ErrArg)
	drops(t, b, api.Ref{Start: 0, Size: 300}, api.OK, 8)
	readsNot(t, b, api.Ref{Start: 0, Size: 300}, 0, 1, api.ErrArg)
}
