package kv

import (
	"bytes"
	"encoding/hex"
	"fmt"
	"maps"
	"math"
	"math/rand"
	"slices"
	"strings"
	"testing"

	"stowage/api"
	"stowage/crashtest"
	"stowage/disk"
	"stowage/snap"
	"stowage/wal"
)

// 9.1

func TestData(t *testing.T) {
	for n := range 5000 {
		from, size := Data(n)
		if q := (n - n%8) / 8; from != q+q+2*q || size != n-from {
			t.Error(n, from, size)
		}
	}
	for n, want := range map[int][2]int{
		0: {0, 0}, 7: {0, 7}, 8: {4, 4}, 31: {12, 19}, 32: {16, 16}, 39: {16, 23}, 40: {20, 20}, 4096: {2048, 2048},
		math.MaxInt: {1<<62 - 4, 1<<62 + 3}, -1: {}, -7: {}, -8: {}, -9: {}, -4096: {}, math.MinInt: {}, math.MinInt + 1: {},
	} {
		if from, size := Data(n); from != want[0] || size != want[1] {
			t.Error(n, from, size)
		}
	}
}

func TestWhereItLies(t *testing.T) {
	for sectors := 32; sectors < 80; sectors++ {
		d := crashtest.Device(t, sectors, 0xEE)
		s := mustOpen(t, d)
		q := sectors / 8
		if s.Room() != 2*q {
			t.Fatal(sectors, s.Room())
		}
		// The log is filled to its end, and so are both slots.
		for range 2 * q {
			mustCommit(t, s)
		}
		if s.Room() != 0 || s.Epoch() != 0 {
			t.Fatal(sectors, s.Room(), s.Epoch())
		}
		size := (q-1)*256 - 12 - 8 - 1
		mustCommit(t, s, put("k", strings.Repeat("\xAA", size)))
		mustCheckpoint(t, s)
		mustCheckpoint(t, s)
		all := crashtest.Content(t, d)
		if from, size := Data(sectors); len(bytes.Trim(all[from*256:], "\xEE")) != 0 || from+size != sectors {
			t.Fatal(sectors, "the sectors of others were touched")
		}
		for slot := range 2 {
			b, _, e := snap.Load(laidSlot(t, all, slot, q), 0, q)
			if want := saved(2*q+1, map[string]string{"k": strings.Repeat("\xAA", size)}); e != api.OK || string(b) != want {
				t.Fatal(sectors, slot, e, len(b))
			}
		}
	}
}

// laidSlot makes a device that has one of the slots of another one alone.
func laidSlot(t testing.TB, all []byte, slot, q int) *disk.Dev {
	t.Helper()
	d := crashtest.Device(t, len(all)/256, 0)
	crashtest.Lay(t, d, slot*q, all[slot*q*256:(slot+1)*q*256])
	return d
}

// 9.2

func TestTheBytesOfAState(t *testing.T) {
	d := crashtest.Device(t, 64, 0)
	s := mustOpen(t, d)
	mustCommit(t, s, put("b", ""), put("ab", "xyz"))
	mustCommit(t, s, put("c", "gone"), put("\xff", "\x00"))
	mustCommit(t, s, del("c"))
	mustCheckpoint(t, s)
	want := "00000008" + "0000000000000003" +
		"00000002" + "6162" + "00000003" + "78797a" +
		"00000001" + "62" + "00000000" +
		"00000001" + "ff" + "00000001" + "00"
	b, _ := d.Read(9) // behind the head of slot 1
	if got := hex.EncodeToString(b[:len(want)/2]); got != want || len(bytes.Trim(b[len(want)/2:], "\x00")) != 0 {
		t.Error(got)
	}
	if b, epoch, e := snap.Load(d, 0, 8); hex.EncodeToString(b) != want || epoch != 1 || e != api.OK {
		t.Error(epoch, e, b)
	}
}

func TestTheBytesOfACommit(t *testing.T) {
	d := crashtest.Device(t, 64, 0)
	s := mustOpen(t, d)
	mustCommit(t, s, put("b", ""), del("zz"), put("a", "xyz"))
	plus := "00000001" + "2b" + "00000001" + "62" + "00000000"
	minus := "00000001" + "2d" + "00000002" + "7a7a"
	third := "00000001" + "2b" + "00000001" + "61" + "00000003" + "78797a"
	payload := "0000000e" + plus + "0000000b" + minus + "00000011" + third
	b, _ := d.Read(16)
	if got := hex.EncodeToString(b[24 : 24+len(payload)/2]); got != payload || b[3] != byte(len(payload)/2) {
		t.Error(got)
	}
}

func TestWhatIsWritten(t *testing.T) {
	r := rand.New(rand.NewSource(92))
	for range 60 {
		sectors := 32 + r.Intn(60)
		q := sectors / 8
		d := crashtest.Device(t, sectors, 0xEE)
		s, m := mustOpen(t, d), newModel(sectors)
		var frames [][]string
		for range 40 {
			if r.Intn(8) == 0 && bothCheckpoint(t, s, m) == api.OK {
				b, epoch, e := snap.Load(d, 0, q)
				if string(b) != saved(m.commits, m.pairs) || epoch != uint64(m.epoch) || e != api.OK {
					t.Fatal(epoch, e, len(b))
				}
				frames = nil
			}
			l, epoch := someChanges(r), m.epoch
			if both(t, s, m, l...) == api.OK {
				if m.epoch != epoch {
					frames = nil
				}
				var records []string
				for _, c := range l {
					records = append(records, recorded(c))
				}
				frames = append(frames, records)
			} else if m.epoch != epoch {
				frames = nil
			}
			log, got, e := wal.Open(d, 2*q, 2*q, uint64(m.epoch))
			if e != api.OK || !slices.EqualFunc(got, frames, slices.Equal) || log.Room() != m.room {
				t.Fatal(e, len(got), len(frames), log.Room(), m.room)
			}
		}
	}
}

// someChanges are a few changes of few keys, so that some of them come again.
func someChanges(r *rand.Rand) []Change {
	var l []Change
	for range r.Intn(5) {
		k := fmt.Sprint("key", r.Intn(12))
		switch r.Intn(5) {
		case 0, 1:
			l = append(l, del(k))
		case 2:
			l = append(l, put(k, ""))
		default:
			l = append(l, put(k, xs(r.Intn(1+r.Intn(400)))))
		}
	}
	return l
}

// TestTheCalls cuts Commits and Checkpoints off at each of their calls of the device: they are those of the layers below, in this order.
func TestTheCalls(t *testing.T) {
	d := crashtest.Device(t, 64, 0xEE)
	s := mustOpen(t, d)
	for range 3 {
		mustCommit(t, s, put("a", xs(300)))
	}
	long := put("b", xs(600))
	// What lies where behind the calls is looked up where they were made.
	after := d.Copy()
	mustCommit(t, mustOpen(t, after), long)
	b := crashtest.Content(t, after)
	at := 16 + 3*2
	crashtest.Calls(t, d, func(c *disk.Dev) api.Errno { return mustOpen(t, c).Commit([]Change{long}) },
		crashtest.Writes(at+1, b[(at+1)*256:(at+4)*256]), crashtest.Writes(at, b[at*256:(at+1)*256]))

	mustCheckpoint(t, mustOpen(t, after))
	b = crashtest.Content(t, after)
	mustCommit(t, s, long)
	save := [][]crashtest.Write{crashtest.Writes(9, b[9*256:13*256]), crashtest.Writes(8, b[8*256:9*256])}
	crashtest.Calls(t, d, func(c *disk.Dev) api.Errno { return mustOpen(t, c).Checkpoint() }, save...)

	// With room for less the Checkpoint comes first.
	wide := slices.Repeat([]Change{put("b", strings.Repeat("w", 400))}, 6)
	mustCommit(t, mustOpen(t, after), wide...)
	b = crashtest.Content(t, after)
	frame := [][]crashtest.Write{crashtest.Writes(17, b[17*256:27*256]), crashtest.Writes(16, b[16*256:17*256])}
	crashtest.Calls(t, d, func(c *disk.Dev) api.Errno { return mustOpen(t, c).Commit(wide) }, slices.Concat(save, frame)...)
}

// 9.3

func TestOpenOfNoDevice(t *testing.T) {
	if s, e := Open(nil); s != nil || e != api.ErrArg {
		t.Error(s, e)
	}
	for n := 1; n < 32; n++ {
		d := crashtest.Device(t, n, 0)
		if s, e := Open(d); s != nil || e != api.ErrArg {
			t.Error(n, s, e)
		}
		d.Fuse(0)
		d.Flush()
		if s, e := Open(d); s != nil || e != api.ErrArg {
			t.Error(n, "the argument comes ahead of the device", e)
		}
	}
}

func TestOpenOfANewDevice(t *testing.T) {
	for _, n := range []int{32, 33, 39, 40, 63, 64, 1000, 4095, 4096} {
		for _, fill := range []byte{0, 0xEE, 0xFF} {
			d := crashtest.Device(t, n, fill)
			untouched(t, d, func() { tells(t, mustOpen(t, d), newModel(n)) })
		}
	}
}

func TestOpenOfADeadDevice(t *testing.T) {
	d := crashtest.Device(t, 64, 0)
	mustCommit(t, mustOpen(t, d), put("a", "1"))
	bad := laid(t, 64, 1, "no state")
	for _, dev := range []*disk.Dev{d, bad, crashtest.Device(t, 32, 0)} {
		dev.Fuse(0)
		dev.Flush()
		if s, e := Open(dev); s != nil || e != api.ErrDead {
			t.Error(s, e)
		}
		dev.Crash(nil)
	}
	holds(t, mustOpen(t, d), map[string]string{"a": "1"})
	if _, e := Open(bad); e != api.ErrBad {
		t.Error(e)
	}
}

func TestOpenOfAUsedDevice(t *testing.T) {
	r := rand.New(rand.NewSource(93))
	for _, sectors := range []int{32, 47, 64, 200} {
		d := crashtest.Device(t, sectors, 0xEE)
		s, m := mustOpen(t, d), newModel(sectors)
		for range 150 {
			if r.Intn(10) == 0 {
				bothCheckpoint(t, s, m)
			}
			both(t, s, m, someChanges(r)...)
			// It tells the same whichever time it is opened, and writes nothing.
			untouched(t, d, func() {
				for range 2 {
					s = mustOpen(t, d)
					tells(t, s, m)
				}
			})
			if d.Pending() != 0 {
				t.Fatal("something waits")
			}
		}
	}
}

func TestOpenReadsWhatIsNotYetFlushed(t *testing.T) {
	d := crashtest.Device(t, 64, 0)
	other := crashtest.Device(t, 64, 0)
	mustCommit(t, mustOpen(t, other), put("a", "1"))
	b, _ := other.Read(16)
	if e := d.Write(16, b); e != api.OK {
		t.Fatal(e)
	}
	untouched(t, d, func() { holds(t, mustOpen(t, d), map[string]string{"a": "1"}) })
	d.Crash(nil)
	holds(t, mustOpen(t, d), nil)
}

// refused fails the test unless the device opens with ErrBad, and nothing is written.
func refused(t *testing.T, d *disk.Dev) {
	t.Helper()
	untouched(t, d, func() {
		if s, e := Open(d); s != nil || e != api.ErrBad {
			t.Error(s, e)
		}
	})
}

func TestStatesThatAreNone(t *testing.T) {
	seven := counted(7)
	for name, state := range map[string]string{
		"nothing":                   "",
		"no pack":                   "\x00\x00\x00",
		"a pack cut short":          packed(seven, "a", "1")[:21],
		"a byte behind":             packed(seven, "a", "1") + "\x00",
		"no count":                  packed("a", "1"),
		"no count, one text":        packed("a"),
		"an empty count":            packed(""),
		"a count of seven bytes":    packed(seven[1:]),
		"a count of nine bytes":     packed(seven + "\x00"),
		"a count in digits":         packed("7"),
		"a count behind":            packed("a", "1", seven),
		"a count above the most":    packed(counted(1_000_000_000_000_000_001)),
		"a count below 0":           packed(counted(1 << 63)),
		"the greatest count":        packed(counted(math.MaxUint64)),
		"a key without value":       packed(seven, "a"),
		"a second one":              packed(seven, "a", "1", "b"),
		"an empty key":              packed(seven, "", "1"),
		"an empty key, and another": packed(seven, "", "1", "a", "1"),
		"an empty key in between":   packed(seven, "a", "1", "", "1"),
		"a key twice":               packed(seven, "a", "1", "a", "1"),
		"a key twice, apart":        packed(seven, "a", "1", "b", "1", "a", "1"),
		"keys that fall":            packed(seven, "b", "1", "a", "1"),
		"keys that fall at the end": packed(seven, "a", "1", "c", "1", "b", "1"),
		"by their beginning":        packed(seven, "aa", "1", "a", "1"),
		"by a byte above 7F":        packed(seven, "\x80", "1", "\x7f", "1"),
		"a key too long":            packed(seven, xs(2049), "1"),
		"a key too long, behind":    packed(seven, "a", "1", xs(2049), ""),
		"a value too long":          packed(seven, "a", xs(65537)),
		"a value too long, between": packed(seven, "a", xs(65537), "b", ""),
	} {
		t.Run(name, func(t *testing.T) {
			for epoch := range uint64(2) {
				refused(t, laid(t, 4096, epoch, state))
				refused(t, laid(t, 4096, epoch, state, []string{recorded(put("a", "1"))}))
			}
		})
	}
}

func TestStatesThatAreSome(t *testing.T) {
	for name, x := range map[string]struct {
		state   string
		commits int
		pairs   map[string]string
	}{
		"no commit":           {packed(counted(0)), 0, nil},
		"no commit, but one":  {packed(counted(0), "a", "1"), 0, map[string]string{"a": "1"}},
		"no pair":             {packed(counted(256)), 256, nil},
		"the most commits":    {packed(counted(1_000_000_000_000_000_000)), 1_000_000_000_000_000_000, nil},
		"bytes of all kinds":  {packed(counted(1), "\x00", "\x00", "\x7f", "\xff", "\x80", "", "\xff", "\x80"), 1, map[string]string{"\x00": "\x00", "\x7f": "\xff", "\x80": "", "\xff": "\x80"}},
		"beginnings":          {packed(counted(1), "a", "", "a\x00", "", "aa", "", "b", ""), 1, map[string]string{"a": "", "a\x00": "", "aa": "", "b": ""}},
		"the longest":         {packed(counted(1), xs(2048), strings.Repeat("y", 65536)), 1, map[string]string{xs(2048): strings.Repeat("y", 65536)}},
		"a count like a text": {packed("\x00abcdefg"), 0x0061626364656667, nil},
	} {
		t.Run(name, func(t *testing.T) {
			for _, epoch := range []uint64{0, 1, 2, 77, 1 << 40} {
				s := mustOpen(t, laid(t, 4096, epoch, x.state))
				tells(t, s, &model{q: 512, pairs: x.pairs, commits: x.commits, epoch: int(epoch), room: 1024})
				if s.Checkpoint() != api.OK || s.Epoch() != int(epoch)+1 {
					t.Error(epoch, s.Epoch())
				}
			}
		})
	}
}

func TestRecordsThatAreNone(t *testing.T) {
	for name, record := range map[string]string{
		"nothing":                "",
		"no pack":                "+",
		"a pack cut short":       recorded(put("a", "1"))[:10],
		"a byte behind":          recorded(put("a", "1")) + "\x00",
		"no sign":                packed("a", "1"),
		"another sign":           packed("*", "a", "1"),
		"an empty sign":          packed("", "a", "1"),
		"two signs":              packed("++", "a", "1"),
		"a sign alone":           packed("+"),
		"the other sign alone":   packed("-"),
		"no value":               packed("+", "a"),
		"two values":             packed("+", "a", "1", "2"),
		"a value of what goes":   packed("-", "a", "1"),
		"an empty one":           packed("-", "a", ""),
		"an empty text behind":   packed("+", "a", "1", ""),
		"an empty key":           packed("+", "", "1"),
		"an empty key that goes": packed("-", ""),
		"a key too long":         packed("+", xs(2049), "1"),
		"one that goes":          packed("-", xs(2049)),
		"a value too long":       packed("+", "a", xs(65537)),
		"a saved state":          saved(1, map[string]string{"a": "1"}),
	} {
		t.Run(name, func(t *testing.T) {
			good := []string{recorded(put("a", "1")), recorded(del("b"))}
			sectors := 128
			if len(record) > 65536 {
				sectors = 4096
			}
			for _, frames := range [][][]string{
				{{record}},
				{{record, good[0]}},
				{{good[0], record}},
				{good, {record}},
				{{record}, good},
				{nil, good, {good[1], record, good[0]}, good},
			} {
				refused(t, laid(t, sectors, 5, saved(1, nil), frames...))
				d := crashtest.Device(t, sectors, 0)
				layFrames(t, d, 0, frames...)
				refused(t, d)
				// Of another epoch they are nothing.
				d = crashtest.Device(t, sectors, 0)
				layFrames(t, d, 1, frames...)
				tells(t, mustOpen(t, d), newModel(sectors))
			}
		})
	}
}

func TestRecordsThatAreSome(t *testing.T) {
	d := laid(t, 4096, 3, saved(10, map[string]string{"old": "o", "stays": "s"}),
		nil,
		[]string{recorded(put(xs(2048), strings.Repeat("y", 65536)))},
		[]string{recorded(del("old")), recorded(put("a", "")), recorded(put("a", "2")), recorded(put("b", "3"))},
		[]string{recorded(del("not there")), recorded(del("b")), recorded(put("c", "4")), recorded(del("c")), recorded(del(xs(2049)[:2048]))},
		[]string{recorded(put("-", "+")), recorded(put("+", "-"))},
	)
	tells(t, mustOpen(t, d), &model{
		pairs:   map[string]string{"stays": "s", "a": "2", "-": "+", "+": "-"},
		commits: 15, epoch: 3, room: 1024 - 1 - 265 - 1 - 9 - 1,
	})
}

func TestTheNewestStateHolds(t *testing.T) {
	d := laid(t, 64, 4, saved(4, map[string]string{"four": ""}))
	for _, x := range []struct {
		epoch uint64
		state string
	}{{5, saved(5, nil)}, {6, "none"}} {
		if e := snap.Save(d, 0, 8, x.epoch, []byte(x.state)); e != api.OK {
			t.Fatal(e)
		}
		if x.epoch == 5 {
			tells(t, mustOpen(t, d), &model{commits: 5, epoch: 5, room: 16})
		} else {
			// The one before is whole, but it is not the one that holds.
			refused(t, d)
		}
	}
	if e := snap.Save(d, 0, 8, 7, []byte(saved(7, nil))); e != api.OK {
		t.Fatal(e)
	}
	tells(t, mustOpen(t, d), &model{commits: 7, epoch: 7, room: 16})
}

// 9.4, 9.5

func TestAgainstAModel(t *testing.T) {
	for seed := range int64(60) {
		r := rand.New(rand.NewSource(seed))
		sectors := []int{32, 33, 40, 64, 100, 256}[r.Intn(6)]
		d := crashtest.Device(t, sectors, byte(r.Intn(2)*0xEE))
		s, m := mustOpen(t, d), newModel(sectors)
		tells(t, s, m)
		for range 150 {
			switch r.Intn(12) {
			case 0:
				bothCheckpoint(t, s, m)
			case 1:
				s = mustOpen(t, d)
				tells(t, s, m)
			case 2:
				both(t, s, m, append(someChanges(r), wrong(r))...)
			case 3:
				both(t, s, m, put(fmt.Sprint("key", r.Intn(12)), xs(r.Intn(sectors*64))))
			default:
				both(t, s, m, someChanges(r)...)
			}
			// All that was answered lasts, and none of it waits.
			d.Crash([]bool{true})
		}
	}
}

// wrong is a change that no commit may have.
func wrong(r *rand.Rand) Change {
	switch r.Intn(6) {
	case 0:
		return put("", "v")
	case 1:
		return del("")
	case 2:
		return put(xs(2049), "")
	case 3:
		return del(xs(2049))
	case 4:
		return Change{Key: "key1", Value: "v", Del: true}
	}
	return put("key1", xs(65537))
}

func TestLimitsOfChanges(t *testing.T) {
	d := crashtest.Device(t, 4096, 0)
	s, m := mustOpen(t, d), newModel(4096)
	for _, x := range []struct {
		c    Change
		want api.Errno
	}{
		{put(xs(2048), strings.Repeat("v", 65536)), api.OK},
		{put(xs(2049), ""), api.ErrArg},
		{put("k", xs(65537)), api.ErrArg},
		{put("k", xs(65536)), api.ErrFull}, // beside the first
		{put("", ""), api.ErrArg},
		{put("", "v"), api.ErrArg},
		{put("k", xs(1<<22)), api.ErrArg},
		{put(xs(1<<22), ""), api.ErrArg},
		{del(""), api.ErrArg},
		{del(xs(2049)), api.ErrArg},
		{Change{xs(2048), "v", true}, api.ErrArg},
		{Change{"not there", "\x00", true}, api.ErrArg},
		{del("not there"), api.OK},
		{del(xs(2047)), api.OK},
		{del(xs(2048)), api.OK},
		{put("k", xs(65536)), api.OK},
		{put("\x00", ""), api.OK},
		{put("\xff\xfe", "\xff"), api.OK},
	} {
		for _, l := range [][]Change{{x.c}, {x.c, put("a", "")}, {put("a", ""), x.c}, {del("a"), x.c, put("a", "2"), del("a")}} {
			if e := both(t, s, m, l...); e != x.want {
				t.Fatal(len(x.c.Key), len(x.c.Value), x.c.Del, e, x.want)
			}
		}
	}
	tells(t, mustOpen(t, d), m)
}

func TestChangesOfOneKey(t *testing.T) {
	for name, x := range map[string]struct {
		l    []Change
		want map[string]string
	}{
		"put twice":      {[]Change{put("k", "1"), put("k", "2")}, map[string]string{"k": "2"}},
		"put and gone":   {[]Change{put("k", "1"), del("k")}, nil},
		"gone and put":   {[]Change{del("k"), put("k", "1")}, map[string]string{"k": "1"}},
		"gone twice":     {[]Change{del("k"), del("k")}, nil},
		"there and back": {[]Change{put("k", "1"), del("k"), put("k", "2"), del("k"), put("k", "3")}, map[string]string{"k": "3"}},
		"around others":  {[]Change{put("k", "1"), put("a", "x"), del("k"), put("z", "y"), put("k", "2"), del("a")}, map[string]string{"k": "2", "z": "y"}},
		"the same twice": {[]Change{put("k", "1"), put("k", "1")}, map[string]string{"k": "1"}},
		"without change": {nil, nil},
	} {
		for _, before := range []map[string]string{nil, {"k": "before"}} {
			t.Run(name, func(t *testing.T) {
				d := crashtest.Device(t, 64, 0)
				s, m := mustOpen(t, d), newModel(64)
				want := x.want
				for k, v := range before {
					both(t, s, m, put(k, v))
					if len(x.l) == 0 {
						want = before
					}
				}
				both(t, s, m, x.l...)
				holds(t, s, want)
				holds(t, mustOpen(t, d), want)
				bothCheckpoint(t, s, m)
				holds(t, mustOpen(t, d), want)
			})
		}
	}
}

func TestCommitsWithoutChanges(t *testing.T) {
	d := crashtest.Device(t, 32, 0)
	s, m := mustOpen(t, d), newModel(32)
	for i := range 30 {
		l := []Change(nil)
		if i%2 == 1 {
			l = []Change{}
		}
		if e := both(t, s, m, l...); e != api.OK || s.Commits() != i+1 || s.Epoch() != i/8 || s.Room() != 7-i%8 {
			t.Fatal(i, e, s.Commits(), s.Epoch(), s.Room())
		}
		tells(t, mustOpen(t, d), m)
	}
}

func TestALogThatIsFull(t *testing.T) {
	// Frames of a record of n bytes in all take just so many sectors.
	frame := func(sectors, less int) Change { return put("k", xs(sectors*256-24-4-5-5-4-less)) }
	for room := range 9 {
		for need := 1; need <= 11; need++ {
			for less := range 2 {
				d := crashtest.Device(t, 64, 0)
				s, m := mustOpen(t, d), newModel(64)
				for range 16 - room {
					both(t, s, m)
				}
				// The state has room for six sectors and more: but the frame may have changes that the state does not keep.
				l := []Change{frame(need, less), put("k", "")}
				l[0].Value = l[0].Value[:max(len(l[0].Value)-4-14, 0)]
				e := both(t, s, m, l...)
				if got := frameSectors(l); need > 1 && got != need {
					t.Fatal(got, need)
				}
				want := 0
				if need > room {
					want = 1
				}
				if e != api.OK || s.Epoch() != want || s.Room() != 16*want+room*(1-want)-need {
					t.Fatal(room, need, e, s.Epoch(), s.Room())
				}
				tells(t, mustOpen(t, d), m)
			}
		}
	}
}

func TestAFrameAsLongAsTheLog(t *testing.T) {
	// In all: 24, a record of 4 + 5 + 5 + 4 and the value, and one of 4 + 14 that makes the value short again.
	fits := []Change{put("k", xs(16*256-24-18-18)), put("k", "")}
	more := []Change{put("k", xs(16*256-24-18-18+1)), put("k", "")}
	for _, before := range []int{0, 1, 5, 16} {
		d := crashtest.Device(t, 64, 0)
		s, m := mustOpen(t, d), newModel(64)
		for range before {
			both(t, s, m)
		}
		epoch := 0
		if before > 0 {
			epoch = 1
		}
		if e := both(t, s, m, fits...); e != api.OK || s.Room() != 0 || s.Epoch() != epoch {
			t.Fatal(before, e, s.Room(), s.Epoch())
		}
		tells(t, mustOpen(t, d), m)
		// One byte more: each time a Checkpoint is made first, be the log empty or not.
		for i := range 5 {
			if e := both(t, s, m, more...); e != api.ErrFull || s.Epoch() != epoch+1+i || s.Room() != 16 || s.Commits() != before+1 {
				t.Fatal(before, i, e, s.Epoch(), s.Room())
			}
			tells(t, mustOpen(t, d), m)
		}
		if e := both(t, s, m, fits...); e != api.OK || s.Room() != 0 || s.Epoch() != epoch+5 {
			t.Fatal(before, e, s.Room(), s.Epoch())
		}
	}
}

func TestMoreThanAnyLogHolds(t *testing.T) {
	// 2^36 bytes, if somebody put them together.
	l := append(slices.Repeat([]Change{put("k", xs(65536))}, 1<<20), del("k"))
	d := crashtest.Device(t, 4096, 0)
	s := mustOpen(t, d)
	if e := s.Commit(l); e != api.ErrFull || s.Epoch() != 1 || s.Commits() != 0 || s.Room() != 1024 {
		t.Error(e, s.Epoch(), s.Commits(), s.Room())
	}
	holds(t, s, nil)
	holds(t, mustOpen(t, d), nil)
}

func TestASlotThatIsFull(t *testing.T) {
	for _, sectors := range []int{32, 48, 64, 200} {
		q := sectors / 8
		room := (q-1)*256 - 12
		for keys := 1; keys <= 4; keys++ {
			d := crashtest.Device(t, sectors, 0)
			s, m := mustOpen(t, d), newModel(sectors)
			for i := range keys - 1 {
				both(t, s, m, put(fmt.Sprint(i), ""))
			}
			left := room - 9*keys
			before := s.Epoch()
			untouched(t, d, func() {
				for _, more := range []int{1, 2, 256, 5000} {
					if e := both(t, s, m, put("last", xs(left-3+more))); e != api.ErrFull || s.Epoch() != before {
						t.Fatal(sectors, keys, e)
					}
					if e := both(t, s, m, del("not there"), put("last", ""), put("other", xs(left-3-13+more))); e != api.ErrFull || s.Epoch() != before {
						t.Fatal(sectors, keys, e)
					}
				}
			})
			if e := both(t, s, m, put("last", xs(left-3))); e != api.OK {
				t.Fatal(sectors, keys, e)
			}
			// There is no room for a key more, but for another value, and for commits.
			if both(t, s, m, put("k", "")) != api.ErrFull || both(t, s, m, put("last", xs(left-2))) != api.ErrFull {
				t.Fatal(sectors, keys)
			}
			if both(t, s, m, put("last", strings.Repeat("y", left-3))) != api.OK || both(t, s, m) != api.OK || bothCheckpoint(t, s, m) != api.OK {
				t.Fatal(sectors, keys)
			}
			tells(t, mustOpen(t, d), m)
		}
	}
}

func TestOnlyTheStateAtTheEndMustFit(t *testing.T) {
	d := crashtest.Device(t, 64, 0)
	s, m := mustOpen(t, d), newModel(64)
	// A slot holds 1,792 bytes, the log 4,096.
	if e := both(t, s, m, put("a", xs(1500)), put("b", xs(1500)), del("a")); e != api.OK {
		t.Error(e)
	}
	if e := both(t, s, m, put("a", xs(1500)), del("b")); e != api.OK {
		t.Error(e)
	}
	if e := both(t, s, m, put("b", xs(1500)), put("c", ""), del("c")); e != api.ErrFull {
		t.Error(e)
	}
	tells(t, mustOpen(t, d), m)
}

// TestAStateThatNoSlotHolds: a log that somebody else wrote may tell more than a slot holds.
func TestAStateThatNoSlotHolds(t *testing.T) {
	d := crashtest.Device(t, 64, 0)
	layFrames(t, d, 0, []string{recorded(put("a", xs(1000)))}, []string{recorded(put("b", xs(1000)))})
	s := mustOpen(t, d)
	m := &model{q: 8, pairs: map[string]string{"a": xs(1000), "b": xs(1000)}, commits: 2, room: 16 - 10}
	tells(t, s, m)
	untouched(t, d, func() {
		if bothCheckpoint(t, s, m) != api.ErrFull || both(t, s, m) != api.ErrFull || both(t, s, m, put("a", xs(999))) != api.ErrFull {
			t.Error("it fits")
		}
		// A frame that needs a Checkpoint first, which there cannot be, though the state behind it would fit.
		if both(t, s, m, put("c", xs(2000)), del("c"), del("a")) != api.ErrFull {
			t.Error("it fits")
		}
	})
	if both(t, s, m, del("a")) != api.OK || bothCheckpoint(t, s, m) != api.OK {
		t.Error("it does not fit")
	}
	tells(t, mustOpen(t, d), m)
}

func TestCheckpoints(t *testing.T) {
	d := crashtest.Device(t, 64, 0xEE)
	s, m := mustOpen(t, d), newModel(64)
	for i := range 20 {
		if bothCheckpoint(t, s, m) != api.OK || s.Epoch() != 2*i+1 || s.Room() != 16 {
			t.Fatal(i, s.Epoch(), s.Room())
		}
		tells(t, mustOpen(t, d), m)
		both(t, s, m, put(fmt.Sprint(i), xs(i)))
		bothCheckpoint(t, s, m)
		tells(t, mustOpen(t, d), m)
	}
	// Frames of the epochs before lie in the log, with the numbers that would come.
	for range 16 {
		both(t, s, m, put("k", "v"))
	}
	bothCheckpoint(t, s, m)
	tells(t, mustOpen(t, d), m)
	both(t, s, m)
	tells(t, mustOpen(t, d), m)
}

// TestADeadStoreStaysDead cuts calls off at each call of the device.
func TestADeadStoreStaysDead(t *testing.T) {
	for name, do := range map[string]func(s *Store) api.Errno{
		"Commit":     func(s *Store) api.Errno { return s.Commit([]Change{put("k", xs(300))}) },
		"Checkpoint": func(s *Store) api.Errno { return s.Checkpoint() },
		"a Commit with a Checkpoint": func(s *Store) api.Errno {
			return s.Commit([]Change{put("k", xs(1700)), put("k", xs(1600)), put("k", xs(700))})
		},
	} {
		for fuse := 0; ; fuse++ {
			d := crashtest.Device(t, 64, 0)
			s, m := mustOpen(t, d), newModel(64)
			both(t, s, m, put("a", xs(300)))
			d.Fuse(fuse)
			e := do(s)
			if e == api.OK {
				if fuse < 4 {
					t.Fatal(name, fuse)
				}
				break
			}
			if e != api.ErrDead {
				t.Fatal(name, fuse, e)
			}
			if s.Epoch() == 1 {
				// Of a Commit the Checkpoint may have gone well.
				m.checkpoint()
			}
			for range 2 {
				tells(t, s, m)
				// ErrDead comes ahead of whatever else is wrong.
				for _, l := range [][]Change{nil, {put("b", "")}, {put("", "")}, {put("k", xs(65537))}, {put("k", xs(5000))}, {{Key: "k", Value: "v", Del: true}}} {
					if e := s.Commit(l); e != api.ErrDead {
						t.Fatal(name, fuse, e)
					}
				}
				if e := s.Checkpoint(); e != api.ErrDead {
					t.Fatal(name, fuse, e)
				}
				tells(t, s, m)
				// Behind a crash the device is alive, but the store does not know what lies there.
				d.Crash(nil)
			}
			if d.Pending() != 0 {
				t.Fatal(name, fuse, "a dead store writes")
			}
			tells(t, mustOpen(t, d), m)
		}
	}
}

func TestADeviceThatDiedElsewhere(t *testing.T) {
	d := crashtest.Device(t, 64, 0)
	s, m := mustOpen(t, d), newModel(64)
	both(t, s, m, put("a", "1"))
	die := func() {
		d.Fuse(0)
		d.Flush()
	}
	die()
	// These are refused before the device is asked.
	both(t, s, m, put("", ""))
	both(t, s, m, put("k", xs(5000)))
	d.Crash(nil)
	both(t, s, m, put("a", "2"))
	die()
	if e := s.Checkpoint(); e != api.ErrDead {
		t.Error(e)
	}
	d.Crash(nil)
	if e := s.Commit(nil); e != api.ErrDead {
		t.Error("the device's error is forgotten", e)
	}
	tells(t, s, m)
	tells(t, mustOpen(t, d), m)
}

func TestATreeThatWasToldStays(t *testing.T) {
	r := rand.New(rand.NewSource(95))
	d := crashtest.Device(t, 64, 0)
	s, m := mustOpen(t, d), newModel(64)
	type told struct {
		s     *Store
		pairs map[string]string
	}
	var all []told
	for range 120 {
		both(t, s, m, someChanges(r)...)
		if r.Intn(10) == 0 {
			bothCheckpoint(t, s, m)
		}
		all = append(all, told{&Store{now: state{tree: s.Tree()}}, m.pairs})
	}
	for _, x := range all {
		holds(t, x.s, x.pairs)
	}
}

func TestWhatIsHandedInIsLeft(t *testing.T) {
	d := crashtest.Device(t, 64, 0)
	s := mustOpen(t, d)
	room := []Change{put("b", "1"), del("x"), put("a", "2"), put("spare", "room"), del("spare")}
	was := slices.Clone(room)
	mustCommit(t, s, room[:3]...)
	if !slices.Equal(room, was) {
		t.Error("an argument, or the room behind it, was changed", room)
	}
	clear(room)
	holds(t, s, map[string]string{"a": "2", "b": "1"})
	mustCheckpoint(t, s)
	holds(t, mustOpen(t, d), map[string]string{"a": "2", "b": "1"})
}

// 9.7

func TestRefusedCallsChangeNothing(t *testing.T) {
	r := rand.New(rand.NewSource(97))
	d := crashtest.Device(t, 64, 0)
	s, m := mustOpen(t, d), newModel(64)
	for i := range 200 {
		both(t, s, m, someChanges(r)...)
		was := m.copy()
		var l []Change
		switch i % 3 {
		case 0:
			l = append(someChanges(r), wrong(r))
		case 1:
			l = append(someChanges(r), put("key1", xs(1800)))
		case 2:
			l = append(slices.Repeat([]Change{put("key1", xs(500))}, 9), del("key1"))
		}
		e := both(t, s, m, l...)
		if e == api.OK || s.Commits() != was.commits || !maps.Equal(m.pairs, was.pairs) || i%3 != 2 && (s.Epoch() != was.epoch || s.Room() != was.room) {
			t.Fatal(i, e, s.Epoch(), was.epoch)
		}
		tells(t, mustOpen(t, d), m)
	}
}

func TestWhatIsThereCanBeDeleted(t *testing.T) {
	r := rand.New(rand.NewSource(98))
	for _, sectors := range []int{32, 39, 40, 64, 128, 512} {
		for range 12 {
			d := crashtest.Device(t, sectors, 0)
			s, m := mustOpen(t, d), newModel(sectors)
			fill(t, r, s, m)
			if r.Intn(2) == 0 {
				bothCheckpoint(t, s, m)
			}
			if r.Intn(2) == 0 {
				s = mustOpen(t, d)
			}
			keys := slices.Sorted(maps.Keys(m.pairs))
			r.Shuffle(len(keys), func(i, j int) { keys[i], keys[j] = keys[j], keys[i] })
			for _, k := range keys {
				if e := both(t, s, m, del(k)); e != api.OK {
					t.Fatal(sectors, len(keys), e)
				}
			}
			holds(t, s, nil)
			tells(t, mustOpen(t, d), m)
			// And what was there can be again.
			fill(t, r, s, m)
		}
	}
}

// fill puts pairs, great ones first, until not even the smallest one fits.
func fill(t *testing.T, r *rand.Rand, s *Store, m *model) {
	t.Helper()
	n := 0
	for size := m.q * 256; size > 0; size = size * 3 / 4 {
		for range 3 {
			n++
			k := fmt.Sprint(n) + xs(min(r.Intn(size), 2040))
			both(t, s, m, put(k, xs(r.Intn(size))))
		}
	}
	for c := range 256 {
		both(t, s, m, put(string([]byte{byte(c)}), ""))
	}
	for i := range 40 {
		if k := fmt.Sprint(n + i); both(t, s, m, put(k, "")) == api.ErrFull {
			return
		}
	}
}

// The chapter's examples.

func TestExamples(t *testing.T) {
	d := crashtest.Device(t, 64, 0)
	if from, size := Data(64); from != 32 || size != 32 {
		t.Error(from, size)
	}
	s := mustOpen(t, d)
	if e := s.Commit([]Change{{Key: "a", Value: "1"}}); e != api.OK || s.Commits() != 1 || s.Room() != 15 {
		t.Error(e, s.Commits(), s.Room())
	}
	d.Crash(nil)
	s = mustOpen(t, d)
	if v, ok := s.Tree().Get("a"); v != "1" || !ok || s.Commits() != 1 {
		t.Error(v, ok, s.Commits())
	}
	if e := s.Commit([]Change{{}}); e != api.ErrArg {
		t.Error(e)
	}
}
