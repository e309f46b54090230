package sectors

import (
	"bytes"
	"math"
	"testing"

	"stowage/api"
	"stowage/crashtest"
	"stowage/disk"
)

// pattern is n bytes of which no two sectors are alike, and none is nought.
func pattern(n int) []byte {
	b := make([]byte, n)
	for i := range b {
		b[i] = byte(1 + (i+i/256)%255)
	}
	return b
}

func TestWithin(t *testing.T) {
	d := crashtest.Device(t, 5, 0)
	for from := -7; from <= 7; from++ {
		for n := -7; n <= 7; n++ {
			want := from >= 0 && n >= 0 && from+n <= 5
			if Within(d, from, n) != want || Within(nil, from, n) {
				t.Error(from, n, !want)
			}
		}
	}
	for _, far := range []int{math.MinInt, math.MinInt + 1, math.MinInt + 5, -1 << 62, 1 << 62, math.MaxInt - 4, math.MaxInt} {
		for _, near := range []int{-1, 0, 1, 5, far} {
			if Within(d, far, near) || Within(d, near, far) {
				t.Error(far, near)
			}
		}
	}
}

func TestCount(t *testing.T) {
	want := 0
	for size := range 3000 {
		if size > want*256 {
			want++
		}
		if got := Count(size); got != want {
			t.Error(size, got, want)
		}
	}
	for size, want := range map[int]int{1 << 62: 1 << 54, 1<<62 + 1: 1<<54 + 1, math.MaxInt: 1 << 55, math.MaxInt - 255: 1<<55 - 1} {
		if got := Count(size); got != want {
			t.Error(size, got, want)
		}
	}
}

func TestThereAndBack(t *testing.T) {
	for size := range 1025 {
		d := crashtest.Device(t, 8, 0xEE)
		if e := Write(d, 2, pattern(size)); e != api.OK || d.Pending() != 0 {
			t.Fatal(size, e, d.Pending())
		}
		all, e := Read(d, 0, 8*256)
		want := bytes.Repeat([]byte{0xEE}, 8*256)
		clear(want[512 : 512+(size+255)/256*256])
		copy(want[512:], pattern(size))
		if e != api.OK || !bytes.Equal(all, want) {
			t.Fatal(size, e, "not what was written")
		}
		for _, n := range []int{0, size / 2, size} {
			if b, e := Read(d, 2, n); e != api.OK || !bytes.Equal(b, pattern(size)[:n]) {
				t.Fatal(size, n, e)
			}
		}
	}
}

func TestTheCallsOfAWrite(t *testing.T) {
	for n := range 5 {
		crashtest.Calls(t, crashtest.Device(t, 8, 0), func(c *disk.Dev) api.Errno {
			return Write(c, 1, pattern(n*256))
		}, crashtest.Writes(1, pattern(n*256)))
	}
}

func TestErrorsOfTheDevice(t *testing.T) {
	d := crashtest.Device(t, 4, 0)
	if b, e := Read(d, 3, 257); b != nil || e != api.ErrArg {
		t.Error(b, e)
	}
	if e := Write(d, 3, pattern(257)); e != api.ErrArg {
		t.Error(e)
	}
	d.Fuse(0)
	if e := Write(d, 0, nil); e != api.ErrDead {
		t.Error("no bytes are flushed, too", e)
	}
	if b, e := Read(d, 0, 1); b != nil || e != api.ErrDead {
		t.Error(b, e)
	}
}

func TestMemory(t *testing.T) {
	d := crashtest.Device(t, 4, 0)
	room := pattern(600)
	if e := Write(d, 0, room[:300]); e != api.OK || !bytes.Equal(room, pattern(600)) {
		t.Fatal(e, "the bytes, or the room behind them, were changed")
	}
	clear(room)
	a, _ := Read(d, 0, 300)
	b, _ := Read(d, 0, 300)
	clear(a[:cap(a)])
	if c, _ := Read(d, 0, 300); !bytes.Equal(b, pattern(300)) || !bytes.Equal(c, pattern(300)) {
		t.Error("memory is shared")
	}
}
