// Package crashtest is what the tests of the layers on a device share: all that a device holds, what waits in its cache, and every way in which a crash may go. Nothing but tests leans on it.
package crashtest

import (
	"bytes"
	"slices"

	"stowage/api"
	"stowage/disk"
)

// T is the part of a test that fails it.
type T interface {
	Helper()
	Fatal(args ...any)
}

// Write is a write that waits: where, and what it would leave there.
type Write struct {
	Sector int
	Data   string
}

// Device makes a device of n sectors that are full of one byte, so that what is nought on it was written.
func Device(t T, n int, fill byte) *disk.Dev {
	t.Helper()
	d, e := disk.New(n)
	if e != api.OK {
		t.Fatal(n, e)
	}
	Lay(t, d, 0, bytes.Repeat([]byte{fill}, n*api.SectorSize))
	return d
}

// Lay writes b, of whole sectors, on the device from one on, and flushes it.
func Lay(t T, d *disk.Dev, from int, b []byte) {
	t.Helper()
	for i := range len(b) / api.SectorSize {
		if e := d.Write(from+i, sector(b, i)); e != api.OK {
			t.Fatal(from+i, e)
		}
	}
	if e := d.Flush(); e != api.OK {
		t.Fatal(e)
	}
}

// Content tells all that can be read of a device.
func Content(t T, d *disk.Dev) []byte {
	t.Helper()
	var all []byte
	for i := range d.Size() {
		b, e := d.Read(i)
		if e != api.OK {
			t.Fatal(i, e)
		}
		all = append(all, b...)
	}
	return all
}

// Waiting tells the writes of the device's cache, in their order. None of them may leave a sector as it lasts.
func Waiting(t T, d *disk.Dev) []Write {
	t.Helper()
	none := d.Copy()
	none.Crash(nil)
	before := Content(t, none)
	var l []Write
	for i := range d.Pending() {
		one := d.Copy()
		keep := make([]bool, i+1)
		keep[i] = true
		one.Crash(keep)
		after := Content(t, one)
		for s := range d.Size() {
			if b := sector(after, s); !bytes.Equal(b, sector(before, s)) {
				l = append(l, Write{s, string(b)})
			}
		}
	}
	if len(l) != d.Pending() {
		t.Fatal("writes that change nothing", len(l), d.Pending())
	}
	return l
}

// Writes tells the writes that lay b, of whole sectors, on the sectors from one on.
func Writes(from int, b []byte) []Write {
	var l []Write
	for i := range len(b) / api.SectorSize {
		l = append(l, Write{from + i, string(sector(b, i))})
	}
	return l
}

// Calls fails the test unless do writes each of the batches and flushes it, in their order, and nothing else: it is cut off behind each of its calls of a copy of d, and what waits there and what lasts is looked at.
func Calls(t T, d *disk.Dev, do func(*disk.Dev) api.Errno, batches ...[]Write) {
	t.Helper()
	calls := 0
	for _, b := range batches {
		calls += len(b) + 1
	}
	for fuse := range calls + 2 {
		c := d.Copy()
		c.Fuse(fuse)
		want := api.OK
		if fuse < calls {
			want = api.ErrDead
		}
		if e := do(c); e != want || c.Dead() != (want == api.ErrDead) {
			t.Fatal(fuse, "of", calls, "calls:", e)
		}
		left(t, d, c, batches, fuse)
	}
}

// left fails the test unless c is d behind that many calls that write the batches and flush them.
func left(t T, d, c *disk.Dev, batches [][]Write, calls int) {
	t.Helper()
	waits, lasts := cutOff(batches, calls)
	if got := Waiting(t, c); !slices.Equal(got, waits) {
		t.Fatal(calls, "calls: other writes wait", len(got), len(waits))
	}
	want := Content(t, d)
	for _, w := range lasts {
		copy(want[w.Sector*api.SectorSize:], w.Data)
	}
	c.Crash(nil)
	if !bytes.Equal(Content(t, c), want) {
		t.Fatal(calls, "calls: other bytes last")
	}
}

// cutOff tells which writes wait, and which ones last, behind that many calls that write the batches and flush them.
func cutOff(batches [][]Write, calls int) (waits, lasts []Write) {
	for _, b := range batches {
		if calls <= len(b) {
			return b[:calls], lasts
		}
		calls -= len(b) + 1
		lasts = append(lasts, b...)
	}
	return nil, lasts
}

// Keeps tells every way in which a crash may keep n writes.
func Keeps(n int) [][]bool {
	l := [][]bool{nil}
	for range n {
		var longer [][]bool
		for _, keep := range l {
			longer = append(longer, append(slices.Clone(keep), false), append(slices.Clone(keep), true))
		}
		l = longer
	}
	return l
}

// sector tells the i-th sector of b.
func sector(b []byte, i int) []byte {
	return b[i*api.SectorSize : (i+1)*api.SectorSize]
}
