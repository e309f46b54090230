package tagset

import (
	"fmt"
	"math/rand/v2"
	"slices"
	"strings"
	"testing"
	"unicode/utf8"

	"stowage/api"
)

// model counts by the library, and finds twins by a map.
func model(l []api.Tag) bool {
	keys := map[string]int{}
	for _, t := range l {
		keys[t.Key]++
		if t.Key == "" || !utf8.ValidString(t.Key) || !utf8.ValidString(t.Value) || utf8.RuneCountInString(t.Key) > 128 || utf8.RuneCountInString(t.Value) > 256 {
			return false
		}
	}
	return len(l) <= 10 && len(keys) == len(l)
}

func agrees(t *testing.T, l []api.Tag) bool {
	t.Helper()
	ok := MayBe(l)
	if ok != model(l) {
		t.Errorf("%.300q: %v", l, ok)
	}
	return ok
}

func many(n int) []api.Tag {
	var l []api.Tag
	for i := range n {
		l = append(l, api.Tag{Key: fmt.Sprint(i), Value: "v"})
	}
	return l
}

func TestHowMany(t *testing.T) {
	for _, n := range []int{0, 1, 9, 10, 11, 12, 1000} {
		if agrees(t, many(n)) != (n <= 10) {
			t.Error(n)
		}
	}
}

func TestHowLong(t *testing.T) {
	for _, c := range []string{"x", "\x00", "\u00e9", "\u20ac", "\uffff", "\ufffd", "\U0001F600", " "} {
		for _, n := range []int{1, 127, 128, 129, 256, 257, 5000} {
			s := strings.Repeat(c, n)
			if agrees(t, []api.Tag{{Key: s}}) != (n <= 128) || agrees(t, []api.Tag{{Key: "k", Value: s}}) != (n <= 256) {
				t.Errorf("%q %d", c, n)
			}
		}
	}
}

func TestTagsThatMayNotBe(t *testing.T) {
	for _, wrong := range [][]api.Tag{
		{{}}, {{Value: "v"}}, {{Key: "a"}, {}}, {{Key: "\xff"}}, {{Key: "a", Value: "\xc3"}}, {{Key: "a\xed\xa0\x80"}}, {{Key: "a"}, {Key: "a"}}, {{Key: "a", Value: "1"}, {Key: "b"}, {Key: "a", Value: "2"}},
	} {
		if agrees(t, wrong) {
			t.Errorf("%q", wrong)
		}
		for i := range 10 {
			if l := slices.Concat(many(i), wrong, many(10)[i+1:]); agrees(t, l) {
				t.Errorf("%q", l)
			}
		}
	}
}

func TestNoise(t *testing.T) {
	rnd := rand.New(rand.NewPCG(15, 20))
	pieces := []string{"", "a", "b", "A", "\x00", "\u20ac", "\xe2\x82", "\xac", "\xff", strings.Repeat("k", 126), strings.Repeat("v", 254), "c", "d", "e"}
	seen := map[bool]int{}
	for range 50000 {
		var l []api.Tag
		for range rnd.IntN(5) {
			l = append(l, api.Tag{Key: pieces[rnd.IntN(len(pieces))] + pieces[rnd.IntN(6)], Value: pieces[rnd.IntN(len(pieces))] + pieces[rnd.IntN(6)]})
		}
		was := slices.Clone(l)
		seen[agrees(t, l)]++
		if !slices.Equal(l, was) {
			t.Fatalf("%q became %q", was, l)
		}
	}
	if seen[true] < 5000 || seen[false] < 5000 {
		t.Error(seen)
	}
}
