package blob

import (
	"bytes"
	"encoding/binary"
	"hash/crc32"
	"math/big"
	"math/rand"
	"slices"
	"testing"

	"stowage/api"
	"stowage/crashtest"
	"stowage/disk"
)

// sealed tells straight from the chapter, by the library, what the units of data hold.
func sealed(data []byte) []byte {
	var b []byte
	for len(data) > 0 {
		unit := make([]byte, 252)
		data = data[copy(unit, data):]
		b = binary.BigEndian.AppendUint32(b, crc32.Checksum(unit, crc32.MakeTable(crc32.Castagnoli)))
		b = append(b, unit...)
	}
	return b
}

// held is what a Blobs is held against: of each unit whether it is taken, and what the device holds, gone through byte by byte.
type held struct {
	dev   *disk.Dev
	from  int
	taken []bool
}

// units tells the units that r takes; false, if one is none, or r is none.
func (h *held) units(r api.Ref) ([]int, bool) {
	if r.Size < 0 || r.Size == 0 && r.Start != 0 {
		return nil, false
	}
	count := new(big.Int).Add(big.NewInt(int64(r.Size)), big.NewInt(251))
	count.Div(count, big.NewInt(252))
	end := new(big.Int).Add(big.NewInt(int64(r.Start)), count)
	if r.Start < 0 || end.Cmp(big.NewInt(int64(len(h.taken)))) > 0 {
		return nil, false
	}
	var l []int
	for u := r.Start; int64(u) < end.Int64(); u++ {
		l = append(l, u)
	}
	return l, true
}

func (h *held) holds(r api.Ref) bool {
	l, ok := h.units(r)
	for _, u := range l {
		ok = ok && h.taken[u]
	}
	return ok
}

func (h *held) turn(r api.Ref, taken bool) {
	l, _ := h.units(r)
	for _, u := range l {
		h.taken[u] = taken
	}
}

func (h *held) free() int {
	n := 0
	for _, taken := range h.taken {
		if !taken {
			n++
		}
	}
	return n
}

// room tells where data of that size finds the first room; false, if there is none.
func (h *held) room(size int) (api.Ref, bool) {
	for start := range h.taken {
		r := api.Ref{Start: start, Size: size}
		l, ok := h.units(r)
		if ok && !slices.ContainsFunc(l, func(u int) bool { return h.taken[u] }) {
			return r, true
		}
	}
	return api.Ref{}, false
}

func (h *held) read(t testing.TB, r api.Ref, off, n int) ([]byte, api.Errno) {
	end := new(big.Int).Add(big.NewInt(int64(off)), big.NewInt(int64(n)))
	if !h.holds(r) || off < 0 || n < 0 || end.Cmp(big.NewInt(int64(r.Size))) > 0 {
		return nil, api.ErrArg
	}
	if n > 0 && h.dev.Dead() {
		return nil, api.ErrDead
	}
	var b []byte
	for at := off; at < off+n; at++ {
		s, e := h.dev.Read(h.from + r.Start + at/252)
		if e != api.OK {
			t.Fatal(e)
		}
		if !bytes.Equal(s, sealed(s[4:])) {
			return nil, api.ErrBad
		}
		b = append(b, s[4+at%252])
	}
	return b, api.OK
}

// run is a Blobs, what it is held against, and what was written and not dropped.
type run struct {
	t    testing.TB
	rnd  *rand.Rand
	b    *Blobs
	h    *held
	data map[api.Ref][]byte
}

func newRun(t testing.TB, rnd *rand.Rand, sectors, from, n int) *run {
	t.Helper()
	d := crashtest.Device(t, sectors, 0xEE)
	return &run{t, rnd, open(t, d, from, n), &held{d, from, make([]bool, n)}, map[api.Ref][]byte{}}
}

// refs tells the Refs of what was written and not dropped, in one order.
func (x *run) refs() []api.Ref {
	var l []api.Ref
	for r := range x.data {
		l = append(l, r)
	}
	slices.SortFunc(l, func(a, b api.Ref) int { return a.Start - b.Start })
	return l
}

// someRef is one of those, one near it, or whatever one.
func (x *run) someRef() api.Ref {
	l := x.refs()
	if len(l) == 0 || x.rnd.Intn(4) == 0 {
		return api.Ref{Start: x.rnd.Intn(len(x.h.taken)+4) - 2, Size: x.rnd.Intn(1000) - 20}
	}
	r := l[x.rnd.Intn(len(l))]
	if x.rnd.Intn(4) == 0 {
		r.Start += x.rnd.Intn(3) - 1
		r.Size += x.rnd.Intn(520) - 260
	}
	return r
}

func (x *run) write() {
	x.t.Helper()
	data := noise(x.rnd, x.rnd.Intn([]int{3, 260, 600, 1500}[x.rnd.Intn(4)]))
	if len(data) == 0 {
		writes(x.t, x.b, data, api.Ref{})
		return
	}
	want, ok := x.h.room(len(data))
	if !ok {
		writesNot(x.t, x.b, data, api.ErrFull)
		return
	}
	r, e := x.b.Write(data)
	if e != api.OK {
		x.crash(e)
		return
	}
	if r != want {
		x.t.Fatal(len(data), r, want)
	}
	x.h.turn(r, true)
	x.data[r] = data
}

// crash goes on behind a device that died, as a store would: it is opened with all that lives.
func (x *run) crash(e api.Errno) {
	x.t.Helper()
	if e != api.ErrDead || !x.h.dev.Dead() || x.b.Free() != x.h.free() {
		x.t.Fatal(e, x.b.Free(), x.h.free())
	}
	keep := make([]bool, x.h.dev.Pending())
	for i := range keep {
		keep[i] = x.rnd.Intn(2) == 0
	}
	x.h.dev.Crash(keep)
	live := x.refs()
	for i := range live {
		j := x.rnd.Intn(i + 1)
		live[i], live[j] = live[j], live[i]
	}
	x.b = open(x.t, x.h.dev, x.h.from, len(x.h.taken), live...)
	x.all()
}

func (x *run) read() {
	x.t.Helper()
	r := x.someRef()
	off, n := x.rnd.Intn(max(r.Size, 0)+3)-1, x.rnd.Intn(max(r.Size, 0)+3)-1
	if x.rnd.Intn(2) == 0 {
		n = r.Size - off
	}
	want, wantE := x.h.read(x.t, r, off, n)
	got, e := x.b.Read(r, off, n)
	if e != wantE || !bytes.Equal(got, want) || e != api.OK && got != nil {
		x.t.Fatal(r, off, n, e, wantE)
	}
	if data, ok := x.data[r]; ok && e == api.OK && !bytes.Equal(got, data[off:off+n]) {
		x.t.Fatal(r, off, n, "not what was written")
	}
}

// drop drops one that was written; or none, since a piece that is dropped would spoil others.
func (x *run) drop() {
	x.t.Helper()
	r := x.someRef()
	_, there := x.data[r]
	switch {
	case there:
		x.h.turn(r, false)
		drops(x.t, x.b, r, api.OK, x.h.free())
		delete(x.data, r)
		drops(x.t, x.b, r, api.ErrArg, x.h.free())
	case !x.h.holds(r):
		drops(x.t, x.b, r, api.ErrArg, x.h.free())
	}
}

// all fails the test unless all that was written is read, in pieces, and all else is free.
func (x *run) all() {
	x.t.Helper()
	units := 0
	for r, data := range x.data {
		units += (len(data) + 251) / 252
		cut := x.rnd.Intn(len(data) + 1)
		reads(x.t, x.b, r, 0, data[:cut])
		reads(x.t, x.b, r, cut, data[cut:])
	}
	if free := len(x.h.taken) - units; x.b.Free() != free || x.h.free() != free {
		x.t.Fatal(x.b.Free(), x.h.free(), free)
	}
}

// 11.2 to 11.4, in long runs of calls, some with a device that dies now and then.
func TestLongRunsOfCalls(t *testing.T) {
	rnd := rand.New(rand.NewSource(130))
	for i := range 200 {
		n := rnd.Intn(25)
		from := rnd.Intn(4)
		x := newRun(t, rnd, from+n+1+rnd.Intn(3), from, n)
		for range 100 {
			if i%2 == 0 && rnd.Intn(10) == 0 {
				x.h.dev.Fuse(rnd.Intn(12))
			}
			switch rnd.Intn(4) {
			case 0:
				x.drop()
			case 1:
				x.read()
			default:
				x.write()
			}
			if x.b.Free() != x.h.free() {
				t.Fatal(i, x.b.Free(), x.h.free())
			}
		}
		x.all()
	}
}

// 11.3: a Write is cut off at each of its calls, each choice of its sectors is kept, and what was there ahead of it is there, and room for it, behind an Open.
func TestEveryCrash(t *testing.T) {
	rnd := rand.New(rand.NewSource(131))
	for _, size := range []int{1, 252, 253, 700, 1260} {
		d := crashtest.Device(t, 14, 0xEE)
		b := open(t, d, 2, 10)
		first, second, third := noise(rnd, 300), noise(rnd, 500), noise(rnd, 252)
		writes(t, b, first, api.Ref{Size: 300})
		writes(t, b, second, api.Ref{Start: 2, Size: 500})
		writes(t, b, third, api.Ref{Start: 4, Size: 252})
		live := []api.Ref{{Start: 4, Size: 252}, {Size: 300}}
		drops(t, b, api.Ref{Start: 2, Size: 500}, api.OK, 7)
		data := noise(rnd, size)
		want := api.Ref{Start: 5, Size: size}
		if size <= 504 {
			want.Start = 2 // where the second one was
		}
		for fuse := range (size+251)/252 + 2 {
			c := d.Copy()
			b := open(t, c, 2, 10, live...)
			c.Fuse(fuse)
			r, e := b.Write(data)
			if e == api.OK && (r != want || c.Pending() != 0) {
				t.Fatal(size, r, c.Pending(), "answered ahead of its flush")
			}
			for _, keep := range crashtest.Keeps(c.Pending()) {
				c := c.Copy()
				c.Crash(keep)
				b := open(t, c, 2, 10, live...)
				reads(t, b, api.Ref{Size: 300}, 0, first)
				reads(t, b, api.Ref{Start: 4, Size: 252}, 0, third)
				readsNot(t, b, want, 0, 0, api.ErrArg)
				if b.Free() != 7 {
					t.Fatal(size, fuse, keep, b.Free())
				}
				writes(t, b, data, want)
				again := open(t, c, 2, 10, append(live, want)...)
				reads(t, again, want, 0, data)
				reads(t, again, api.Ref{Size: 300}, 0, first)
				if e == api.OK {
					old := c.Copy()
					old.Crash(nil)
					reads(t, open(t, old, 2, 10, append(live, want)...), want, 0, data)
				}
			}
		}
	}
}

// 11.3: behind a crash each unit of a Write that was cut off is read as it was written, or is what was there ahead of it.
func TestUnitsOfAWriteThatWasCutOff(t *testing.T) {
	rnd := rand.New(rand.NewSource(132))
	old, data := noise(rnd, 756), noise(rnd, 700)
	for fuse := range 4 {
		d := crashtest.Device(t, 3, 0xEE)
		b := open(t, d, 0, 3)
		writes(t, b, old, api.Ref{Size: 756})
		drops(t, b, api.Ref{Size: 756}, api.OK, 3)
		d.Fuse(fuse)
		writesNot(t, b, data, api.ErrDead)
		for _, keep := range crashtest.Keeps(d.Pending()) {
			c := d.Copy()
			c.Crash(keep)
			b := open(t, c, 0, 3, api.Ref{Size: 756})
			want := slices.Clone(old)
			for i, k := range keep {
				if k {
					clear(want[i*252 : (i+1)*252])
					copy(want[i*252:(i+1)*252], data[i*252:])
				}
			}
			reads(t, b, api.Ref{Size: 756}, 0, want)
		}
	}
}

// likelyInt is an int that might be mistaken: a small one, one of the data's edges, or one so great that sums wrap round.
func likelyInt(rnd *rand.Rand) int {
	switch rnd.Intn(4) {
	case 0:
		return rnd.Intn(10) - 1
	case 1:
		return places[rnd.Intn(len(places))]
	case 2:
		return wide[rnd.Intn(len(wide))] + rnd.Intn(600)
	}
	return 252*rnd.Intn(9) + rnd.Intn(3) - 1
}

// whatever calls all that a Blobs has with whatever ints, on a device whose sectors are whole or not, and holds what it tells against the model.
func whatever(t testing.TB, d *disk.Dev, from, n int, live []api.Ref, ask []api.Ref, off, count int) {
	t.Helper()
	b, e := Open(d, from, n, live)
	if from < 0 || n < 0 || from > d.Size() || n > d.Size()-from {
		if b != nil || e != api.ErrArg {
			t.Fatal(from, n, e)
		}
		return
	}
	h := &held{d, from, make([]bool, n)}
	for _, r := range live {
		l, ok := h.units(r)
		if !ok || slices.ContainsFunc(l, func(u int) bool { return h.taken[u] }) {
			if b != nil || e != api.ErrBad {
				t.Fatal(from, n, live, e)
			}
			return
		}
		h.turn(r, true)
	}
	if b == nil || e != api.OK || b.Free() != h.free() {
		t.Fatal(from, n, live, e)
	}
	for _, r := range append(slices.Clone(live), ask...) {
		want, wantE := h.read(t, r, off, count)
		if got, e := b.Read(r, off, count); e != wantE || !bytes.Equal(got, want) || e != api.OK && got != nil {
			t.Fatal(from, n, live, r, off, count, e, wantE)
		}
	}
	for _, r := range append(slices.Clone(ask), live...) {
		if e := b.Drop(r); e == api.OK != h.holds(r) || e != api.OK && e != api.ErrArg {
			t.Fatal(from, n, live, r, e)
		} else if e == api.OK {
			h.turn(r, false)
		}
		if b.Free() != h.free() {
			t.Fatal(from, n, live, r, b.Free(), h.free())
		}
	}
}

// wholeOrNot is a device of eight sectors, some of which are whole.
func wholeOrNot(t testing.TB, rnd *rand.Rand) *disk.Dev {
	d := crashtest.Device(t, 8, 0)
	crashtest.Lay(t, d, 0, sealed(noise(rnd, 8*252)))
	for range rnd.Intn(3) {
		change(t, d, rnd.Intn(8), rnd.Intn(256), byte(1+rnd.Intn(255)))
	}
	return d
}

func TestWhateverInts(t *testing.T) {
	rnd := rand.New(rand.NewSource(133))
	for range 100 {
		d := wholeOrNot(t, rnd)
		for range 200 {
			from, n := 1, 6
			if rnd.Intn(8) == 0 {
				from, n = likelyInt(rnd), likelyInt(rnd)
			}
			var live, ask []api.Ref
			for u := 0; u < 6; u += 1 + rnd.Intn(3) {
				r := api.Ref{Start: u, Size: 1 + rnd.Intn(252*(1+rnd.Intn(6-u)))}
				live = append(live, r)
				u += (r.Size+251)/252 - 1
			}
			if rnd.Intn(4) == 0 {
				live = append(live, api.Ref{Start: likelyInt(rnd), Size: likelyInt(rnd)})
			}
			for range 4 {
				ask = append(ask, api.Ref{Start: likelyInt(rnd), Size: likelyInt(rnd)}, api.Ref{Start: rnd.Intn(7), Size: rnd.Intn(700)})
			}
			whatever(t, d, from, n, live, ask, likelyInt(rnd), likelyInt(rnd))
		}
	}
}

func FuzzWhateverInts(f *testing.F) {
	f.Add(int64(1), 1, 6, 0, 300, 2, 1, 0, 300, 250, 10)
	f.Add(int64(2), 8, 0, 0, 0, 0, 0, 1, 0, 0, 0)
	f.Add(int64(3), 0, 8, 1<<62, 1<<62, 0, 0, 0, 1, -1, 1<<62)
	f.Fuzz(func(t *testing.T, seed int64, from, n, start1, size1, start2, size2, start3, size3, off, count int) {
		d := wholeOrNot(t, rand.New(rand.NewSource(seed)))
		live := []api.Ref{{Start: start1, Size: size1}, {Start: start2, Size: size2}}
		whatever(t, d, from, n, live, []api.Ref{{Start: start3, Size: size3}}, off, count)
	})
}
