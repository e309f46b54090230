package disk

import (
	"bytes"
	"math"
	"math/rand"
	"slices"
	"testing"

	"stowage/api"
)

// filled is a sector of one byte over and over.
func filled(c byte) []byte {
	return bytes.Repeat([]byte{c}, 256)
}

// mixed is a sector in which every byte is another one.
func mixed(c byte) []byte {
	b := make([]byte, 256)
	for i := range b {
		b[i] = byte(i) + c
	}
	return b
}

func device(t testing.TB, n int) *Dev {
	t.Helper()
	d, e := New(n)
	if e != api.OK || d == nil {
		t.Fatal(n, e)
	}
	return d
}

func mustWrite(t testing.TB, d *Dev, i int, c byte) {
	t.Helper()
	if e := d.Write(i, filled(c)); e != api.OK {
		t.Fatal(i, c, e)
	}
}

func mustFlush(t testing.TB, d *Dev) {
	t.Helper()
	if e := d.Flush(); e != api.OK {
		t.Fatal(e)
	}
}

// holds asserts that the sectors from 0 on are filled with these bytes.
func holds(t testing.TB, d *Dev, want ...byte) {
	t.Helper()
	for i, c := range want {
		if b, e := d.Read(i); e != api.OK || !bytes.Equal(b, filled(c)) {
			t.Errorf("sector %d: %v, want %d: %v", i, e, c, b)
		}
	}
}

// masks are all lists of n bools.
func masks(n int) [][]bool {
	l := [][]bool{nil}
	for range n {
		var longer [][]bool
		for _, m := range l {
			longer = append(longer, append(slices.Clone(m), false), append(slices.Clone(m), true))
		}
		l = longer
	}
	return l
}

// noSectors are numbers of no sector of a device of n.
func noSectors(n int) []int {
	return []int{-1, -2, -256, -n, n, n + 1, 2 * n, 4096, 4097, math.MaxInt32, math.MinInt32, math.MaxInt, math.MinInt}
}

// 5.1

func TestNew(t *testing.T) {
	for _, n := range []int{1, 2, 31, 32, 255, 256, 4095, 4096} {
		d := device(t, n)
		if d.Size() != n || d.Pending() != 0 || d.Dead() {
			t.Error(n, d.Size(), d.Pending(), d.Dead())
		}
		for i := range n {
			if b, e := d.Read(i); e != api.OK || !bytes.Equal(b, make([]byte, 256)) {
				t.Fatal(n, i, e, b)
			}
		}
	}
}

func TestNewOfNoDevice(t *testing.T) {
	for _, n := range []int{0, -1, -2, -4096, 4097, 4098, 8192, 65536, math.MaxInt32, math.MinInt32, math.MaxInt, math.MinInt} {
		if d, e := New(n); d != nil || e != api.ErrArg {
			t.Error(n, d, e)
		}
	}
}

func TestReadTellsWhatWasWrittenLast(t *testing.T) {
	d := device(t, 3)
	want := [][]byte{filled(0), filled(0), filled(0)}
	for step := range 60 {
		i := step * 7 % 3
		b := mixed(byte(step * 5))
		if e := d.Write(i, b); e != api.OK {
			t.Fatal(e)
		}
		want[i] = b
		if step%11 == 0 {
			mustFlush(t, d)
		}
		for j := range 3 {
			if got, e := d.Read(j); e != api.OK || !bytes.Equal(got, want[j]) {
				t.Fatal(step, j, e, got)
			}
		}
	}
}

func TestEverySectorByItself(t *testing.T) {
	d := device(t, 4096)
	for i := range 4096 {
		b := filled(byte(i))
		b[0] = byte(i >> 8)
		if e := d.Write(i, b); e != api.OK {
			t.Fatal(i, e)
		}
	}
	mustFlush(t, d)
	for i := range 4096 {
		if b, e := d.Read(i); e != api.OK || len(b) != 256 || b[0] != byte(i>>8) || b[255] != byte(i) {
			t.Fatal(i, e, b)
		}
	}
}

func TestNoSuchSector(t *testing.T) {
	for _, n := range []int{1, 4, 4096} {
		d := device(t, n)
		mustWrite(t, d, n-1, 3)
		for _, i := range noSectors(n) {
			if i >= 0 && i < n {
				continue
			}
			if b, e := d.Read(i); b != nil || e != api.ErrArg {
				t.Error(n, i, b, e)
			}
			if e := d.Write(i, filled(1)); e != api.ErrArg {
				t.Error(n, i, e)
			}
		}
		if b, e := d.Read(n - 1); e != api.OK || b[0] != 3 || d.Pending() != 1 || d.Dead() {
			t.Error(n, e, b, d.Pending(), d.Dead())
		}
	}
}

func TestWriteOfAnotherLength(t *testing.T) {
	d := device(t, 2)
	for _, n := range []int{0, 1, 2, 128, 254, 255, 257, 258, 511, 512, 65536} {
		if e := d.Write(1, bytes.Repeat([]byte{9}, n)); e != api.ErrArg {
			t.Error(n, e)
		}
	}
	if e := d.Write(1, nil); e != api.ErrArg {
		t.Error(e)
	}
	if e := d.Write(1, filled(9)[:255]); e != api.ErrArg {
		t.Error("spare room taken for bytes", e)
	}
	holds(t, d, 0, 0)
	if d.Pending() != 0 {
		t.Error(d.Pending())
	}
}

func TestFlushEmptiesTheCache(t *testing.T) {
	d := device(t, 2)
	mustFlush(t, d)
	mustWrite(t, d, 0, 1)
	mustWrite(t, d, 1, 2)
	mustWrite(t, d, 0, 3)
	mustFlush(t, d)
	if d.Pending() != 0 {
		t.Error(d.Pending())
	}
	holds(t, d, 3, 2)
	d.Crash(nil)
	holds(t, d, 3, 2)
}

func TestADeadDeviceAnswersNothing(t *testing.T) {
	d := device(t, 2)
	mustWrite(t, d, 0, 1)
	d.Fuse(0)
	if e := d.Write(1, filled(2)); e != api.ErrDead {
		t.Fatal(e)
	}
	for range 3 {
		for _, i := range append(noSectors(2), 0, 1) {
			if b, e := d.Read(i); b != nil || e != api.ErrDead {
				t.Error(i, b, e)
			}
			for _, b := range [][]byte{nil, {}, {1}, filled(1), filled(1)[:255], append(filled(1), 1)} {
				if e := d.Write(i, b); e != api.ErrDead {
					t.Error(i, len(b), e)
				}
			}
		}
		if e := d.Flush(); e != api.ErrDead {
			t.Error(e)
		}
		if !d.Dead() || d.Size() != 2 || d.Pending() != 1 {
			t.Error(d.Dead(), d.Size(), d.Pending())
		}
	}
	d.Crash([]bool{true, true})
	holds(t, d, 1, 0)
}

// 5.2

func TestFuse(t *testing.T) {
	for k := range 12 {
		for _, flushAt := range []int{-1, 0, 1, 2, 3, 5, 11} {
			d := device(t, 2)
			d.Fuse(k)
			for step := range k + 3 {
				var e api.Errno
				if step == flushAt {
					e = d.Flush()
				} else {
					e = d.Write(step%2, filled(byte(step)))
				}
				if (e == api.OK) != (step < k) || (e == api.ErrDead) != (step >= k) || d.Dead() != (step >= k) {
					t.Fatal(k, flushAt, step, e, d.Dead())
				}
			}
		}
	}
}

func TestFuseCountsFlushes(t *testing.T) {
	d := device(t, 1)
	d.Fuse(3)
	for range 3 {
		mustFlush(t, d)
	}
	if d.Dead() {
		t.Error("dead ahead of its time")
	}
	if e := d.Flush(); e != api.ErrDead || !d.Dead() {
		t.Error(e, d.Dead())
	}
}

func TestFuseDoesNotCountWhatIsWrongOrOnlyAsks(t *testing.T) {
	d := device(t, 4)
	d.Fuse(1)
	for range 5 {
		for _, i := range noSectors(4) {
			if e := d.Write(i, filled(1)); e != api.ErrArg {
				t.Error(i, e)
			}
		}
		if e := d.Write(0, filled(1)[1:]); e != api.ErrArg {
			t.Error(e)
		}
		if _, e := d.Read(4); e != api.ErrArg {
			t.Error(e)
		}
		holds(t, d, 0, 0, 0, 0)
		if d.Pending() != 0 || d.Size() != 4 || d.Dead() || d.Copy() == nil {
			t.Error(d.Pending(), d.Size(), d.Dead())
		}
	}
	mustWrite(t, d, 0, 1)
	if e := d.Write(4, filled(1)); e != api.ErrArg || d.Dead() {
		t.Error("a wrong write finds the fuse", e, d.Dead())
	}
	if e := d.Write(0, filled(2)); e != api.ErrDead || !d.Dead() {
		t.Error(e, d.Dead())
	}
}

func TestABurntFuseIsFoundByTheNextCall(t *testing.T) {
	d := device(t, 1)
	mustWrite(t, d, 0, 1)
	d.Fuse(0)
	if d.Dead() {
		t.Error("dead at once")
	}
	holds(t, d, 1)
	if e := d.Flush(); e != api.ErrDead || !d.Dead() || d.Pending() != 1 {
		t.Error(e, d.Dead(), d.Pending())
	}
	d.Crash(nil)
	holds(t, d, 0)
}

func TestANewFuseReplacesTheOld(t *testing.T) {
	d := device(t, 1)
	for _, k := range []int{-1, -5, math.MinInt} {
		d.Fuse(0)
		d.Fuse(k)
		for range 100 {
			mustWrite(t, d, 0, 1)
			mustFlush(t, d)
		}
	}
	d.Fuse(1)
	d.Fuse(math.MaxInt)
	for range 100 {
		mustWrite(t, d, 0, 1)
		mustFlush(t, d)
	}
	d.Fuse(100)
	d.Fuse(2)
	mustWrite(t, d, 0, 1)
	d.Fuse(2)
	mustWrite(t, d, 0, 1)
	mustWrite(t, d, 0, 1)
	if e := d.Write(0, filled(1)); e != api.ErrDead {
		t.Error(e)
	}
}

func TestAFuseWakesNoDeadDevice(t *testing.T) {
	for _, k := range []int{-1, 0, 1, 9, math.MaxInt, math.MinInt} {
		d := device(t, 1)
		d.Fuse(0)
		d.Flush()
		d.Fuse(k)
		if _, e := d.Read(0); e != api.ErrDead || !d.Dead() || d.Flush() != api.ErrDead || d.Write(0, filled(1)) != api.ErrDead {
			t.Error(k, e, d.Dead())
		}
		d.Crash(nil)
		for range 20 {
			mustFlush(t, d)
		}
		if d.Dead() {
			t.Error(k, "the fuse outlasts the crash")
		}
	}
}

// 5.3

func TestCrashKeepsWhatItIsTold(t *testing.T) {
	sectors := []int{0, 1, 0, 2, 1, 0, 0}
	for n := range len(sectors) + 3 {
		for _, keep := range masks(n) {
			d := device(t, 4)
			mustWrite(t, d, 0, 100)
			mustWrite(t, d, 3, 101)
			mustFlush(t, d)
			want := []byte{100, 0, 0, 101}
			for i, s := range sectors {
				mustWrite(t, d, s, byte(i+1))
				if i < n && keep[i] {
					want[s] = byte(i + 1)
				}
			}
			d.Crash(keep)
			holds(t, d, want...)
			if d.Pending() != 0 || d.Dead() || d.Size() != 4 {
				t.Fatal(keep, d.Pending(), d.Dead(), d.Size())
			}
			d.Crash([]bool{true, true, true, true, true, true, true})
			holds(t, d, want...)
		}
	}
}

func TestCrashOfADeadDevice(t *testing.T) {
	d := device(t, 2)
	d.Fuse(2)
	mustWrite(t, d, 0, 1)
	mustWrite(t, d, 1, 2)
	if e := d.Write(0, filled(3)); e != api.ErrDead {
		t.Fatal(e)
	}
	d.Crash([]bool{true, true, true})
	if d.Dead() {
		t.Error("still dead")
	}
	holds(t, d, 1, 2)
	for range 10 {
		mustWrite(t, d, 0, 4)
		mustFlush(t, d)
	}
}

func TestCrashTakesTheFuseAway(t *testing.T) {
	for k := range 4 {
		d := device(t, 1)
		d.Fuse(k)
		d.Crash(nil)
		for range 10 {
			mustWrite(t, d, 0, 4)
			mustFlush(t, d)
		}
	}
}

func TestPending(t *testing.T) {
	d := device(t, 2)
	for n := range 100 {
		if d.Pending() != n {
			t.Fatal(n, d.Pending())
		}
		mustWrite(t, d, n/50, 1)
	}
	mustFlush(t, d)
	if d.Pending() != 0 {
		t.Error(d.Pending())
	}
	mustWrite(t, d, 0, 1)
	mustWrite(t, d, 0, 1)
	if d.Pending() != 2 {
		t.Error(d.Pending())
	}
	d.Crash([]bool{true})
	if d.Pending() != 0 {
		t.Error(d.Pending())
	}
}

func TestCopyIsTheSame(t *testing.T) {
	d := device(t, 3)
	mustWrite(t, d, 0, 1)
	mustFlush(t, d)
	mustWrite(t, d, 0, 2)
	mustWrite(t, d, 1, 3)
	d.Fuse(1)
	c := d.Copy()
	if c == d || c.Size() != 3 || c.Pending() != 2 || c.Dead() {
		t.Fatal(c.Size(), c.Pending(), c.Dead())
	}
	holds(t, c, 2, 3, 0)
	mustWrite(t, c, 2, 4)
	if e := c.Flush(); e != api.ErrDead {
		t.Error("the fuse is not copied", e)
	}
	dead := c.Copy()
	if !dead.Dead() || dead.Pending() != 3 || dead.Flush() != api.ErrDead {
		t.Error(dead.Dead(), dead.Pending())
	}
	dead.Crash([]bool{false, true, true})
	holds(t, dead, 1, 3, 4)
	if d.Dead() || !c.Dead() {
		t.Error("one's death is the other one's", d.Dead(), c.Dead())
	}
	holds(t, d, 2, 3, 0)
	mustWrite(t, d, 2, 5)
	if e := d.Flush(); e != api.ErrDead {
		t.Error("the copy burnt the fuse of both", e)
	}
}

func TestCopiesGoTheirOwnWays(t *testing.T) {
	for n := range 9 {
		d := device(t, 3)
		for i := range n {
			mustWrite(t, d, 0, byte(i+1))
		}
		c := d.Copy()
		mustWrite(t, c, 1, 50)
		mustWrite(t, d, 1, 60)
		mustWrite(t, c, 2, 51)
		holds(t, d, byte(n), 60, 0)
		holds(t, c, byte(n), 50, 51)
		all := slices.Repeat([]bool{true}, n+2)
		c.Crash(all)
		d.Crash(all)
		holds(t, d, byte(n), 60, 0)
		holds(t, c, byte(n), 50, 51)
		mustWrite(t, d, 0, 70)
		mustFlush(t, d)
		holds(t, c, byte(n), 50, 51)
		c.Crash(nil)
		holds(t, c, byte(n), 50, 51)
	}
}

// 5.4

// TestWhatACrashMayLeave goes through every crash of many runs: a sector is what it was when it was flushed last, or one of the writes behind that.
func TestWhatACrashMayLeave(t *testing.T) {
	r := rand.New(rand.NewSource(5))
	for range 60 {
		d := device(t, 3)
		may := [][]byte{{0}, {0}, {0}}
		for step := range 30 {
			if r.Intn(4) == 0 || d.Pending() == 7 {
				mustFlush(t, d)
				for i, l := range may {
					may[i] = l[len(l)-1:]
				}
			} else {
				i := r.Intn(3)
				mustWrite(t, d, i, byte(step+1))
				may[i] = append(may[i], byte(step+1))
			}
			for _, keep := range masks(d.Pending()) {
				c := d.Copy()
				c.Crash(keep)
				for i, l := range may {
					if b, e := c.Read(i); e != api.OK || !bytes.Contains(l, b[:1]) || !bytes.Equal(b, filled(b[0])) {
						t.Fatal(step, keep, i, e, b, l)
					}
				}
			}
		}
	}
}

func TestWhatWasFlushedOutlastsEveryCrash(t *testing.T) {
	d := device(t, 8)
	for round := range 20 {
		for i := range 8 {
			mustWrite(t, d, i, byte(round*8+i))
		}
		mustFlush(t, d)
		for n := range 4 {
			for _, keep := range masks(n) {
				d.Crash(keep)
			}
		}
		for i := range 8 {
			if b, e := d.Read(i); e != api.OK || !bytes.Equal(b, filled(byte(round*8+i))) {
				t.Fatal(round, i, e, b)
			}
		}
	}
}

// 5.5

func TestWhatIsHandedInIsCopied(t *testing.T) {
	d := device(t, 2)
	room := append(filled(1), filled(2)...)
	b := room[:256]
	if e := d.Write(0, b); e != api.OK {
		t.Fatal(e)
	}
	if !bytes.Equal(room, append(filled(1), filled(2)...)) {
		t.Error("an argument, or the room behind it, was changed")
	}
	clear(room)
	holds(t, d, 1, 0)
	mustFlush(t, d)
	holds(t, d, 1, 0)
	mustWrite(t, d, 1, 2)
	keep := []bool{true, true, false}
	d.Crash(keep[:1])
	if !slices.Equal(keep, []bool{true, true, false}) {
		t.Error(keep)
	}
	keep[0] = false
	holds(t, d, 1, 2)
}

func TestWhatIsToldIsNewMemory(t *testing.T) {
	d := device(t, 3)
	mustWrite(t, d, 0, 1)
	mustFlush(t, d)
	mustWrite(t, d, 1, 2)
	for range 3 {
		for i := range 3 {
			b, _ := d.Read(i)
			b = b[:cap(b)]
			for j := range b {
				b[j] = 99
			}
			holds(t, d, 1, 2, 0)
		}
	}
	x, _ := d.Read(2)
	y, _ := d.Read(2)
	x[0] = 1
	if y[0] != 0 {
		t.Error("two answers share memory")
	}
	d.Crash([]bool{true})
	holds(t, d, 1, 2, 0)
}

// The chapter's examples.

func TestExamples(t *testing.T) {
	d := device(t, 4)
	mustWrite(t, d, 0, 'a')
	if d.Pending() != 1 {
		t.Error(d.Pending())
	}
	d.Crash([]bool{false})
	holds(t, d, 0)

	d = device(t, 4)
	mustWrite(t, d, 0, 'a')
	mustWrite(t, d, 0, 'b')
	d.Crash([]bool{true, false})
	holds(t, d, 'a')

	d = device(t, 4)
	d.Fuse(1)
	mustWrite(t, d, 1, 'a')
	if e := d.Flush(); e != api.ErrDead || !d.Dead() {
		t.Error(e, d.Dead())
	}
	if b, e := d.Read(0); b != nil || e != api.ErrDead {
		t.Error(b, e)
	}
}

// All promises at once: a device is held against a plain telling of them.

// model is a device of which each sector is one byte, told straight from the chapter: it reads by going through the cache.
type model struct {
	lasting [3]byte
	cache   [][2]byte // sector, byte
	fuse    int       // below 0: none
	dead    bool
}

func (m model) copied() model {
	m.cache = slices.Clone(m.cache)
	return m
}

func (m model) read(i int) (byte, api.Errno) {
	if m.dead {
		return 0, api.ErrDead
	}
	if i < 0 || i > 2 {
		return 0, api.ErrArg
	}
	c := m.lasting[i]
	for _, w := range m.cache {
		if int(w[0]) == i {
			c = w[1]
		}
	}
	return c, api.OK
}

func (m *model) burn() api.Errno {
	if m.fuse == 0 {
		m.dead = true
	}
	if m.dead {
		return api.ErrDead
	}
	if m.fuse > 0 {
		m.fuse--
	}
	return api.OK
}

func (m *model) write(i, size int, c byte) api.Errno {
	if !m.dead && (i < 0 || i > 2 || size != 256) {
		return api.ErrArg
	}
	e := m.burn()
	if e == api.OK {
		m.cache = append(m.cache, [2]byte{byte(i), c})
	}
	return e
}

func (m *model) flush() api.Errno {
	e := m.burn()
	if e == api.OK {
		m.keep(func(int) bool { return true })
	}
	return e
}

func (m *model) keep(kept func(i int) bool) {
	for i, w := range m.cache {
		if kept(i) {
			m.lasting[w[0]] = w[1]
		}
	}
	m.cache = nil
}

func (m *model) crash(keep []bool) {
	m.keep(func(i int) bool { return i < len(keep) && keep[i] })
	m.dead, m.fuse = false, -1
}

// same tells whether device and model answer all that asks and changes nothing the same.
func same(d *Dev, m model) bool {
	if d.Size() != 3 || d.Pending() != len(m.cache) || d.Dead() != m.dead {
		return false
	}
	for i := -1; i <= 3; i++ {
		b, e := d.Read(i)
		c, want := m.read(i)
		if e != want || e != api.OK && b != nil || e == api.OK && !bytes.Equal(b, filled(c)) {
			return false
		}
	}
	return true
}

// calls is how many calls step knows.
const calls = 14

// step makes the call that n names on both, with c as the byte to write, and tells whether they answer the same.
func step(d *Dev, m *model, n int, c byte) bool {
	switch n {
	case 0, 1, 2:
		return d.Write(n, filled(c)) == m.write(n, 256, c)
	case 3:
		return d.Flush() == m.flush()
	case 4, 5, 6, 7:
		d.Fuse(n - 5)
		if !m.dead {
			m.fuse = max(n-5, -1)
		}
	case 8, 9, 10, 11:
		keep := [][]bool{nil, {true}, {false, true}, {true, false, true, true}}[n-8]
		d.Crash(keep)
		m.crash(keep)
	case 12:
		return d.Write(3, filled(c)) == m.write(3, 256, c)
	case 13:
		return d.Write(1, filled(c)[:255]) == m.write(1, 255, c)
	}
	return true
}

// TestEveryShortRun makes every run of five calls.
func TestEveryShortRun(t *testing.T) {
	var run func(d *Dev, m model, made []int)
	run = func(d *Dev, m model, made []int) {
		if len(made) == 5 || t.Failed() {
			return
		}
		for n := range calls {
			c, k := d.Copy(), m.copied()
			now := append(slices.Clone(made), n)
			if !step(c, &k, n, byte(len(made)+1)) || !same(c, k) {
				t.Error(now)
				return
			}
			run(c, k, now)
		}
	}
	run(device(t, 3), model{fuse: -1}, nil)
}

// runs makes the calls that script names, copies now and then, and goes on with the copy while the one left behind must stay as it was.
func runs(t *testing.T, script []byte) {
	d, m := device(t, 3), model{fuse: -1}
	left, was := d.Copy(), m.copied()
	for i, x := range script {
		n := int(x) % (calls + 2)
		if n >= calls {
			if !same(left, was) {
				t.Fatal(script[:i+1], "what was left behind has changed")
			}
			left, was = d, m.copied()
			d = d.Copy()
		}
		if !step(d, &m, n, byte(i+1)) || !same(d, m) {
			t.Fatal(script[:i+1])
		}
	}
	if !same(left, was) {
		t.Fatal(script, "what was left behind has changed")
	}
}

func TestLongRuns(t *testing.T) {
	r := rand.New(rand.NewSource(14))
	for range 300 {
		script := make([]byte, 200)
		for i := range script {
			// Mostly writes, so that the cache gets long.
			script[i] = byte(r.Intn(3))
			if r.Intn(4) == 0 {
				script[i] = byte(r.Intn(calls + 2))
			}
		}
		runs(t, script)
	}
}

func FuzzRuns(f *testing.F) {
	f.Add([]byte{0, 8})
	f.Add([]byte{0, 0, 9})
	f.Add([]byte{6, 1, 3, 14, 10, 2})
	f.Fuzz(func(t *testing.T, script []byte) {
		if len(script) < 1000 {
			runs(t, script)
		}
	})
}
