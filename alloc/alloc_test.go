package alloc

import (
	"fmt"
	"math"
	"math/rand"
	"slices"
	"testing"

	"stowage/api"
)

// row is what a space is held against: of each unit whether it is taken, gone through unit by unit.
type row []bool

// all tells whether the k units from start on are units and all taken, or all free.
func (r row) all(start, k int, taken bool) bool {
	if start < 0 || start > len(r) || k < 0 || k > len(r) || start+k > len(r) {
		return false
	}
	return !slices.Contains(r[start:start+k], !taken)
}

func (r row) fill(start, k int, taken bool) {
	for i := range k {
		r[start+i] = taken
	}
}

func (r row) take(k int) (int, api.Errno) {
	if k < 1 {
		return 0, api.ErrArg
	}
	for start := range r {
		if r.all(start, k, false) {
			r.fill(start, k, true)
			return start, api.OK
		}
	}
	return 0, api.ErrFull
}

// turn is Give where taken is true, Mark where it is false.
func (r row) turn(start, k int, taken bool) api.Errno {
	if k < 1 || !r.all(start, k, taken) {
		return api.ErrArg
	}
	r.fill(start, k, !taken)
	return api.OK
}

func (r row) free() int {
	n := 0
	for _, taken := range r {
		if !taken {
			n++
		}
	}
	return n
}

func (r row) runs() [][2]int {
	var l [][2]int
	for u, taken := range r {
		switch {
		case taken:
		case u == 0 || r[u-1]:
			l = append(l, [2]int{u, 1})
		default:
			l[len(l)-1][1]++
		}
	}
	return l
}

func (r row) String() string {
	b := make([]byte, len(r))
	for u, taken := range r {
		b[u] = '.'
		if taken {
			b[u] = 'x'
		}
	}
	return string(b)
}

// rowOf is a row of n units of which those are taken that the runs of units tell.
func rowOf(n int, taken ...[2]int) row {
	r := make(row, n)
	for _, x := range taken {
		r.fill(x[0], x[1], true)
	}
	return r
}

func space(t testing.TB, n int) *Space {
	t.Helper()
	s, e := New(n)
	if e != api.OK || s == nil {
		t.Fatal(n, e)
	}
	return s
}

// spaceOf is a space whose units are the row's, marked one by one.
func spaceOf(t testing.TB, r row) *Space {
	t.Helper()
	s := space(t, len(r))
	for u, taken := range r {
		if taken {
			if e := s.Mark(u, 1); e != api.OK {
				t.Fatal(r, u, e)
			}
		}
	}
	return s
}

// tells fails the test unless the space tells by Free and Runs what the row does, and as 10.2 says.
func tells(t testing.TB, s *Space, want row) {
	t.Helper()
	runs := s.Runs()
	if s.Free() != want.free() || !slices.Equal(runs, want.runs()) {
		t.Fatalf("%v: Free %d, Runs %v", want, s.Free(), runs)
	}
	sum, end := 0, -1
	for _, x := range runs {
		if x[0] <= end || x[1] < 1 {
			t.Fatalf("%v: runs touch or overlap: %v", want, runs)
		}
		end = x[0] + x[1]
		sum += x[1]
	}
	if sum != s.Free() || end > len(want) {
		t.Fatalf("%v: Free %d, Runs %v", want, s.Free(), runs)
	}
}

// takes calls Take of both, and holds what they tell and what they are then against each other.
func takes(t testing.TB, s *Space, r row, k int) {
	t.Helper()
	before := r.String()
	want, wantE := r.take(k)
	if got, e := s.Take(k); got != want || e != wantE {
		t.Fatalf("%s: Take(%d): %d %v, want %d %v", before, k, got, e, want, wantE)
	}
	tells(t, s, r)
}

// turns calls Give of both where taken is true, Mark where it is false, and holds them against each other.
func turns(t testing.TB, s *Space, r row, start, k int, taken bool) {
	t.Helper()
	before := r.String()
	name, call := "Mark", s.Mark
	if taken {
		name, call = "Give", s.Give
	}
	want := r.turn(start, k, taken)
	if e := call(start, k); e != want {
		t.Fatalf("%s: %s(%d, %d): %v, want %v", before, name, start, k, e, want)
	}
	tells(t, s, r)
}

// sizes are sizes of spaces: the least, those around the bounds of words, and the greatest.
func sizes() []int {
	return []int{0, 1, 2, 7, 8, 9, 31, 32, 33, 63, 64, 65, 66, 127, 128, 129, 191, 192, 193, 1000, 4031, 4032, 4033, 4095, 4096}
}

// wide are ints that no count and no number of a unit can be.
func wide() []int {
	return []int{math.MinInt, math.MinInt + 1, math.MinInt + 4096, math.MinInt32 - 1, math.MinInt32, -4097, -4096, -65, -64, -63, -2, -1,
		4097, 8192, math.MaxInt32, math.MaxInt32 + 1, math.MaxUint32, math.MaxUint32 + 1, 1 << 58, 1 << 62, math.MaxInt - 4096, math.MaxInt - 1, math.MaxInt}
}

// 10.1

func TestNew(t *testing.T) {
	for _, n := range sizes() {
		s := space(t, n)
		if s.Free() != n {
			t.Error(n, s.Free())
		}
		tells(t, s, make(row, n))
	}
}

func TestNewOfNoSpace(t *testing.T) {
	for _, n := range wide() {
		if s, e := New(n); s != nil || e != api.ErrArg {
			t.Error(n, s, e)
		}
	}
}

func TestSpacesAreByThemselves(t *testing.T) {
	a, b := space(t, 100), space(t, 100)
	takes(t, a, rowOf(100), 70)
	tells(t, b, rowOf(100))
	tells(t, space(t, 100), rowOf(100))
}

func TestTakeBelowOne(t *testing.T) {
	for _, n := range []int{0, 1, 64, 100} {
		s := space(t, n)
		for _, k := range []int{0, -1, -2, -64, -n, math.MinInt32, math.MinInt + 1, math.MinInt} {
			if u, e := s.Take(k); u != 0 || e != api.ErrArg {
				t.Error(n, k, u, e)
			}
		}
		tells(t, s, make(row, n))
	}
}

func TestTakeOfAllAndOfMore(t *testing.T) {
	for _, n := range sizes() {
		s, r := space(t, n), make(row, n)
		for _, k := range []int{n + 1, n + 2, n + 64, 4097, math.MaxInt32, math.MaxInt - 1, math.MaxInt} {
			if u, e := s.Take(k); u != 0 || e != api.ErrFull {
				t.Error(n, k, u, e)
			}
		}
		tells(t, s, r)
		if n > 0 {
			takes(t, s, r, n)
		}
		if s.Free() != 0 || len(s.Runs()) != 0 {
			t.Error(n, s.Free(), s.Runs())
		}
		takes(t, s, r, 1)
	}
}

func TestTakeOneByOne(t *testing.T) {
	for _, n := range sizes() {
		s := space(t, n)
		for u := range n {
			if got, e := s.Take(1); got != u || e != api.OK {
				t.Fatal(n, u, got, e)
			}
		}
		if u, e := s.Take(1); u != 0 || e != api.ErrFull || s.Free() != 0 {
			t.Error(n, u, e, s.Free())
		}
	}
}

func TestTakeTellsTheFirstRunThatIsLongEnough(t *testing.T) {
	for _, x := range []struct {
		n, k  int
		taken [][2]int
		want  int
		e     api.Errno
	}{
		{10, 2, [][2]int{{1, 1}, {4, 1}}, 2, api.OK},
		{10, 1, [][2]int{{1, 1}, {4, 1}}, 0, api.OK},
		{10, 3, [][2]int{{1, 1}, {4, 1}}, 5, api.OK},
		{10, 5, [][2]int{{1, 1}, {4, 1}}, 5, api.OK},
		{10, 6, [][2]int{{1, 1}, {4, 1}}, 0, api.ErrFull}, // eight are free
		{10, 2, [][2]int{{1, 1}, {3, 1}, {5, 1}, {7, 1}, {9, 1}}, 0, api.ErrFull},
		{10, 2, [][2]int{{0, 8}}, 8, api.OK},
		{10, 2, [][2]int{{2, 8}}, 0, api.OK},
		{10, 3, [][2]int{{2, 6}}, 0, api.ErrFull}, // neither round the end nor over the middle
		{10, 4, [][2]int{{2, 6}}, 0, api.ErrFull},
		{128, 2, [][2]int{{0, 63}, {65, 63}}, 63, api.OK}, // over the bound of two words
		{128, 3, [][2]int{{0, 63}, {65, 63}}, 0, api.ErrFull},
		{128, 64, [][2]int{{0, 1}, {65, 1}}, 1, api.OK},
		{128, 64, [][2]int{{0, 1}, {64, 1}}, 0, api.ErrFull},
		{128, 63, [][2]int{{0, 1}, {64, 1}}, 1, api.OK},
		{128, 65, [][2]int{{0, 62}, {127, 1}}, 62, api.OK},
		{192, 66, [][2]int{{0, 63}, {129, 63}}, 63, api.OK}, // a whole word amid
		{192, 67, [][2]int{{0, 63}, {129, 63}}, 0, api.ErrFull},
		{200, 64, [][2]int{{64, 64}}, 0, api.OK},
		{200, 65, [][2]int{{64, 64}}, 128, api.OK},
		{200, 72, [][2]int{{64, 64}}, 128, api.OK},
		{200, 73, [][2]int{{64, 64}}, 0, api.ErrFull},
		{4096, 64, [][2]int{{0, 4032}}, 4032, api.OK},
		{4096, 65, [][2]int{{0, 4032}}, 0, api.ErrFull},
		{4096, 2048, [][2]int{{2047, 1}}, 2048, api.OK},
		{4096, 2049, [][2]int{{2047, 1}}, 0, api.ErrFull},
	} {
		s := spaceOf(t, rowOf(x.n, x.taken...))
		if u, e := s.Take(x.k); u != x.want || e != x.e {
			t.Errorf("%+v: %d %v", x, u, e)
		}
	}
}

func TestTakeOfEveryLengthAtEveryPlace(t *testing.T) {
	for _, n := range []int{130, 192} {
		for start := range n {
			for _, k := range []int{1, 2, 3, 63, 64, 65, 66, 127, 128, 129} {
				if start+k > n {
					continue
				}
				r := rowOf(n, [2]int{0, start}, [2]int{start + k, n - start - k})
				s := spaceOf(t, r)
				if u, e := s.Take(k + 1); u != 0 || e != api.ErrFull {
					t.Fatal(n, start, k, u, e)
				}
				if u, e := s.Take(k); u != start || e != api.OK || s.Free() != 0 {
					t.Fatal(n, start, k, u, e, s.Free())
				}
			}
		}
	}
}

func TestTakeLooksAtWhatWasGiven(t *testing.T) {
	s, r := space(t, 300), rowOf(300)
	for range 3 {
		takes(t, s, r, 100)
	}
	turns(t, s, r, 60, 10, true)
	turns(t, s, r, 250, 20, true)
	takes(t, s, r, 11)
	takes(t, s, r, 10)
	takes(t, s, r, 9)
	takes(t, s, r, 1)
}

func TestGiveAndMarkOfNoUnits(t *testing.T) {
	for _, n := range []int{0, 1, 8, 63, 64, 65, 100, 128, 4095, 4096} {
		free, taken := make(row, n), rowOf(n, [2]int{0, n})
		s, full := spaceOf(t, free), spaceOf(t, taken)
		starts := append(wide(), 0, 1, n-2, n-1, n, n+1)
		counts := append(wide(), 0, n+1, n+2)
		for _, start := range starts {
			for _, k := range append(counts, n-start+1, n-start+2, -start, math.MaxInt-start, math.MaxInt-start+1) {
				if k >= 1 && start >= 0 && start < n && k <= n-start {
					continue
				}
				if e := s.Mark(start, k); e != api.ErrArg {
					t.Fatal("Mark", n, start, k, e)
				}
				if e := full.Give(start, k); e != api.ErrArg {
					t.Fatal("Give", n, start, k, e)
				}
			}
		}
		tells(t, s, free)
		tells(t, full, taken)
	}
}

func TestGiveAndMarkUpToTheEnd(t *testing.T) {
	for _, n := range sizes() {
		s, r := space(t, n), make(row, n)
		for _, start := range []int{0, 1, n / 2, n - 65, n - 64, n - 63, n - 2, n - 1} {
			for _, taken := range []bool{false, true} {
				turns(t, s, r, start, n-start+1, taken)
				turns(t, s, r, start, n-start, taken)
				turns(t, s, r, start, n-start, taken)
			}
		}
	}
}

func TestOneUnitAmidTheOthers(t *testing.T) {
	for _, x := range [][2]int{{0, 1}, {0, 2}, {3, 5}, {60, 10}, {63, 1}, {63, 2}, {64, 64}, {62, 70}, {0, 200}, {120, 80}} {
		start, k := x[0], x[1]
		for odd := range k {
			r := rowOf(200, [2]int{start + odd, 1})
			s := spaceOf(t, r)
			turns(t, s, r, start, k, false)
			if e := s.Mark(start, k); e != api.ErrArg {
				t.Fatal(x, odd, e)
			}
			r = rowOf(200, [2]int{0, start + odd}, [2]int{start + odd + 1, 200 - start - odd - 1})
			s = spaceOf(t, r)
			turns(t, s, r, start, k, true)
			if e := s.Give(start, k); e != api.ErrArg {
				t.Fatal(x, odd, e)
			}
		}
	}
}

func TestGiveAndMarkTouchNoOthers(t *testing.T) {
	for start := range 130 {
		for _, k := range []int{1, 2, 63, 64, 65, 129, 130 - start} {
			if start+k > 130 {
				continue
			}
			r := rowOf(130)
			s := space(t, 130)
			turns(t, s, r, start, k, false)
			r = rowOf(130, [2]int{0, 130})
			s = spaceOf(t, r)
			turns(t, s, r, start, k, true)
		}
	}
}

func TestGiveOfAPieceOfWhatWasTaken(t *testing.T) {
	s, r := space(t, 100), rowOf(100)
	takes(t, s, r, 40)
	takes(t, s, r, 40)
	turns(t, s, r, 30, 20, true) // of both, which Take told apart
	turns(t, s, r, 30, 1, true)
	turns(t, s, r, 29, 2, true)
	turns(t, s, r, 0, 30, true)
	turns(t, s, r, 50, 30, true)
	tells(t, s, rowOf(100))
}

func TestRuns(t *testing.T) {
	for _, x := range []struct {
		n     int
		taken [][2]int
		want  [][2]int
	}{
		{0, nil, nil},
		{1, nil, [][2]int{{0, 1}}},
		{1, [][2]int{{0, 1}}, nil},
		{5, [][2]int{{0, 1}, {2, 1}, {4, 1}}, [][2]int{{1, 1}, {3, 1}}},
		{5, [][2]int{{1, 1}, {3, 1}}, [][2]int{{0, 1}, {2, 1}, {4, 1}}},
		{63, [][2]int{{62, 1}}, [][2]int{{0, 62}}},
		{64, [][2]int{{0, 63}}, [][2]int{{63, 1}}},
		{65, [][2]int{{0, 64}}, [][2]int{{64, 1}}},
		{65, [][2]int{{63, 1}}, [][2]int{{0, 63}, {64, 1}}},
		{65, [][2]int{{64, 1}}, [][2]int{{0, 64}}},
		{130, [][2]int{{0, 60}, {70, 50}}, [][2]int{{60, 10}, {120, 10}}},
		{130, [][2]int{{64, 64}}, [][2]int{{0, 64}, {128, 2}}},
		{130, [][2]int{{0, 130}}, nil},
		{4096, [][2]int{{1, 4094}}, [][2]int{{0, 1}, {4095, 1}}},
	} {
		s := spaceOf(t, rowOf(x.n, x.taken...))
		if got := s.Runs(); !slices.Equal(got, x.want) {
			t.Errorf("%+v: %v", x, got)
		}
	}
}

func TestRunsOfEverySecondUnit(t *testing.T) {
	for _, first := range []int{0, 1} {
		r := make(row, 4096)
		for u := first; u < 4096; u += 2 {
			r[u] = true
		}
		s := spaceOf(t, r)
		tells(t, s, r)
		if len(s.Runs()) != 2048 || s.Free() != 2048 {
			t.Error(first, len(s.Runs()), s.Free())
		}
		takes(t, s, r, 2)
		turns(t, s, r, 2046+first, 1, true)
		takes(t, s, r, 4)
		takes(t, s, r, 3)
	}
}

func TestRunsAreNewMemory(t *testing.T) {
	s, r := space(t, 100), rowOf(100, [2]int{10, 1}, [2]int{20, 1})
	turns(t, s, rowOf(100), 10, 1, false)
	turns(t, s, rowOf(100, [2]int{10, 1}), 20, 1, false)
	first, second := s.Runs(), s.Runs()
	for i := range first {
		first[i] = [2]int{-1, -1}
	}
	first = first[:cap(first)]
	for i := range first {
		first[i] = [2]int{-1, -1}
	}
	if !slices.Equal(second, r.runs()) {
		t.Error("two answers share memory", second)
	}
	tells(t, s, r)
}

func TestCopyGoesItsOwnWay(t *testing.T) {
	for _, n := range sizes() {
		r := make(row, n)
		for u := 0; u < n; u += 3 {
			r[u] = true
		}
		s := spaceOf(t, r)
		c := s.Copy()
		if c == nil || c == s {
			t.Fatal(n, c)
		}
		tells(t, c, r)
		own, others := slices.Clone(r), slices.Clone(r)
		takes(t, s, own, 2)
		turns(t, s, own, n-1, 1, n > 0 && own[n-1])
		tells(t, c, others)
		turns(t, c, others, 0, 1, true)
		takes(t, c, others, 1)
		takes(t, c, others, 1)
		tells(t, s, own)
		tells(t, s.Copy().Copy(), own)
	}
}

func TestACopyDoesWhatTheFirstWouldDo(t *testing.T) {
	rnd := rand.New(rand.NewSource(101))
	for range 200 {
		n := rnd.Intn(200)
		s, r := space(t, n), make(row, n)
		for range 30 {
			step(t, rnd, s, r)
		}
		seed := rnd.Int63()
		c, own := s.Copy(), slices.Clone(r)
		for _, x := range []struct {
			s *Space
			r row
		}{{s, r}, {c, own}} {
			again := rand.New(rand.NewSource(seed))
			for range 30 {
				step(t, again, x.s, x.r)
			}
		}
		if r.String() != own.String() || !slices.Equal(s.Runs(), c.Runs()) {
			t.Fatal(n, r, own)
		}
	}
}

// step does a call that is likely to go well half of the time.
func step(t testing.TB, rnd *rand.Rand, s *Space, r row) {
	t.Helper()
	n := len(r)
	long := []int{3, 10, 70, n + 2}[rnd.Intn(4)]
	k := rnd.Intn(long) + rnd.Intn(20)/19 - rnd.Intn(20)/19
	start := rnd.Intn(n+3) - 1
	switch rnd.Intn(5) {
	case 0, 1:
		takes(t, s, r, k)
	case 2:
		turns(t, s, r, start, k, true)
	case 3:
		turns(t, s, r, start, k, false)
	default:
		// All of a run, or one unit more: at random these would be rare.
		start, k, taken := runAt(r, start)
		turns(t, s, r, start, k+rnd.Intn(4)/3, taken)
	}
}

// runAt tells the run of units that are as unit u is, and that has it, and whether they are taken.
func runAt(r row, u int) (int, int, bool) {
	if u < 0 || u >= len(r) {
		return u, 1, false
	}
	start, end := u, u+1
	for start > 0 && r[start-1] == r[u] {
		start--
	}
	for end < len(r) && r[end] == r[u] {
		end++
	}
	return start, end - start, r[u]
}

func TestLongRunsOfCalls(t *testing.T) {
	rnd := rand.New(rand.NewSource(10))
	for _, n := range sizes() {
		s, r := space(t, n), make(row, n)
		for range 300 {
			step(t, rnd, s, r)
		}
	}
	for range 300 {
		n := rnd.Intn(300)
		s, r := space(t, n), make(row, n)
		for range 100 {
			step(t, rnd, s, r)
		}
	}
}

// rows are all rows of n units.
func rows(n int) []row {
	l := []row{{}}
	for range n {
		var longer []row
		for _, r := range l {
			longer = append(longer, append(slices.Clone(r), false), append(slices.Clone(r), true))
		}
		l = longer
	}
	return l
}

func TestEveryCallOfEverySmallSpace(t *testing.T) {
	for n := range 8 {
		for _, r := range rows(n) {
			s := spaceOf(t, r)
			tells(t, s, r)
			for k := -2; k <= n+2; k++ {
				takes(t, s.Copy(), slices.Clone(r), k)
				for start := -2; start <= n+2; start++ {
					turns(t, s.Copy(), slices.Clone(r), start, k, true)
					turns(t, s.Copy(), slices.Clone(r), start, k, false)
				}
			}
		}
	}
}

func TestEveryCallAroundTheBoundOfAWord(t *testing.T) {
	const n, from, width = 132, 61, 6
	for _, outside := range []bool{false, true} {
		for _, amid := range rows(width) {
			r := rowOf(n)
			r.fill(0, n, outside)
			copy(r[from:], amid)
			s := spaceOf(t, r)
			for k := 1; k <= width+1; k++ {
				takes(t, s.Copy(), slices.Clone(r), k)
				for start := from - 1; start <= from+width; start++ {
					turns(t, s.Copy(), slices.Clone(r), start, k, true)
					turns(t, s.Copy(), slices.Clone(r), start, k, false)
				}
			}
			for _, k := range []int{60, 61, 62, 64, 65, 67, 70} {
				takes(t, s.Copy(), slices.Clone(r), k)
			}
		}
	}
}

// 10.2

func TestTakeAndGiveBackChangeNothing(t *testing.T) {
	rnd := rand.New(rand.NewSource(102))
	for range 300 {
		n := rnd.Intn(260)
		s, r := space(t, n), make(row, n)
		for range 20 {
			step(t, rnd, s, r)
		}
		for k := 1; k <= n; k++ {
			u, e := s.Take(k)
			if e != api.OK {
				tells(t, s, r)
				continue
			}
			if e := s.Give(u, k); e != api.OK {
				t.Fatal(r, k, u, e)
			}
			tells(t, s, r)
		}
	}
}

func TestGiveAndMarkAgainChangeNothing(t *testing.T) {
	r := rowOf(200, [2]int{50, 100})
	s := spaceOf(t, r)
	for start := 50; start < 150; start += 7 {
		for k := 1; start+k <= 150; k += 5 {
			if e := s.Give(start, k); e != api.OK {
				t.Fatal(start, k, e)
			}
			if e := s.Mark(start, k); e != api.OK {
				t.Fatal(start, k, e)
			}
			tells(t, s, r)
		}
	}
}

func TestATakeOfAtMostTheLongestRunGoesWell(t *testing.T) {
	rnd := rand.New(rand.NewSource(103))
	for range 300 {
		n := rnd.Intn(260)
		s, r := space(t, n), make(row, n)
		for range 20 {
			step(t, rnd, s, r)
		}
		longest := 0
		for _, x := range s.Runs() {
			longest = max(longest, x[1])
		}
		for k := 1; k <= n+1; k++ {
			want := api.OK
			if k > longest {
				want = api.ErrFull
			}
			if u, e := s.Copy().Take(k); e != want || e != api.OK && u != 0 {
				t.Fatal(r, k, longest, u, e)
			}
		}
	}
}

// 10.3

func TestARefusedCallChangesNothing(t *testing.T) {
	r := rowOf(150, [2]int{0, 10}, [2]int{60, 10}, [2]int{149, 1})
	s := spaceOf(t, r)
	odd := append(wide(), 0, 1, 2, 59, 60, 61, 64, 69, 70, 79, 80, 81, 100, 148, 149, 150, 151)
	refused := 0
	for _, k := range odd {
		before := s.Copy()
		if u, e := s.Take(k); e != api.OK {
			if u != 0 {
				t.Error(k, u, e)
			}
			tells(t, s, r)
			refused++
		}
		s = before
		for _, start := range odd {
			for _, call := range []func(*Space, int, int) api.Errno{(*Space).Give, (*Space).Mark} {
				before := s.Copy()
				if e := call(s, start, k); e != api.OK {
					if e != api.ErrArg {
						t.Error(start, k, e)
					}
					tells(t, s, r)
					refused++
				}
				s = before
			}
		}
	}
	if refused < 1000 {
		t.Error("too few were refused:", refused)
	}
}

func TestASpaceWithoutUnits(t *testing.T) {
	s := space(t, 0)
	for _, k := range append(wide(), 0, 1, 2) {
		want := api.ErrFull
		if k < 1 {
			want = api.ErrArg
		}
		if u, e := s.Take(k); u != 0 || e != want {
			t.Error(k, u, e)
		}
		for _, start := range append(wide(), 0, 1) {
			if s.Give(start, k) != api.ErrArg || s.Mark(start, k) != api.ErrArg {
				t.Error(start, k)
			}
		}
	}
	tells(t, s, row{})
	tells(t, s.Copy(), row{})
}

// The chapter's examples.

func TestExamples(t *testing.T) {
	s := space(t, 8)
	var got []string
	say := func(x ...any) { got = append(got, fmt.Sprint(x...)) }
	say(s.Take(3))
	say(s.Take(2))
	say(s.Give(0, 3))
	say(s.Take(4))
	say(s.Take(2))
	say(s.Runs())
	say(s.Mark(0, 1))
	say(s.Give(7, 2))
	want := []string{"0 error 0", "3 error 0", "error 0", "0 error 60", "0 error 0", "[[2 1] [5 3]]", "error 1", "error 1"}
	if !slices.Equal(got, want) {
		t.Errorf("%q, want %q", got, want)
	}
}
