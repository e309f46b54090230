package btree

import (
	"fmt"
	"math/rand"
	"slices"
	"strings"
	"sync"
	"testing"
)

// item is a key and its value, as a list tells them.
type item struct{ key, value string }

// list is what a tree is held against: all that was put, by rising key, each key found by going through it.
type list []item

func (l list) get(k string) (string, bool) {
	for _, x := range l {
		if x.key == k {
			return x.value, true
		}
	}
	return "", false
}

func (l list) put(k, v string) list {
	out := append(l.del(k), item{k, v})
	slices.SortFunc(out, func(a, b item) int { return strings.Compare(a.key, b.key) })
	return out
}

func (l list) del(k string) list {
	return slices.DeleteFunc(slices.Clone(l), func(x item) bool { return x.key == k })
}

func (l list) from(k string) list {
	return slices.DeleteFunc(slices.Clone(l), func(x item) bool { return x.key < k })
}

// told is what a loop over From goes through.
func told(b *Tree, k string) list {
	var out list
	for k, v := range b.From(k) {
		out = append(out, item{k, v})
	}
	return out
}

// around are keys at, right ahead of and right behind k.
func around(k string) []string {
	l := []string{k, k + "\x00", k + "~"}
	if k != "" {
		last := k[len(k)-1]
		l = append(l, k[:len(k)-1])
		if last > 0 {
			l = append(l, k[:len(k)-1]+string([]byte{last - 1})+"\xff")
		}
	}
	return l
}

// tells fails the test unless the tree tells by Len and From what the list does, and has the shape of 8.2 and 8.4.
func tells(t testing.TB, b *Tree, want list) {
	t.Helper()
	if b == nil {
		t.Fatal("no tree")
	}
	if b.Len() != len(want) {
		t.Fatal("Len", b.Len(), len(want))
	}
	if got := told(b, ""); !slices.Equal(got, want) {
		t.Fatalf("From: %q, want %q", got, want)
	}
	shaped(t, b)
}

// asks fails the test unless the tree tells of k what the list does.
func asks(t testing.TB, b *Tree, want list, k string) {
	t.Helper()
	v, ok := want.get(k)
	if gotV, gotOK := b.Get(k); gotV != v || gotOK != ok {
		t.Fatalf("Get %q: %q %v, want %q %v", k, gotV, gotOK, v, ok)
	}
	if got := told(b, k); !slices.Equal(got, want.from(k)) {
		t.Fatalf("From %q: %q, want %q", k, got, want.from(k))
	}
	if c, gotOK := b.Del(k); gotOK != ok || !ok && c != b {
		t.Fatalf("Del %q: %v, the same: %v", k, gotOK, c == b)
	}
}

// shaped fails the test unless Levels tells nodes as 8.2 says, and no more levels than 8.4 says.
func shaped(t testing.TB, b *Tree) {
	t.Helper()
	levels := b.Levels()
	if len(levels) == 0 || len(levels[0]) != 1 {
		t.Fatalf("no root: %q", levels)
	}
	bound := 1
	for n := b.Len(); n >= 4; n /= 4 {
		bound++
	}
	if len(levels) > bound {
		t.Fatal(b.Len(), "keys on", len(levels), "levels")
	}
	for i := range levels {
		rowShaped(t, levels, i)
	}
	var all []string
	for _, leaf := range levels[len(levels)-1] {
		all = append(all, leaf...)
	}
	var want []string
	for _, x := range told(b, "") {
		want = append(want, x.key)
	}
	if !slices.Equal(all, want) {
		t.Fatalf("leaves hold %q, not %q", all, want)
	}
}

// rowShaped holds level i against 8.2.
func rowShaped(t testing.TB, levels [][][]string, i int) {
	t.Helper()
	bottom := i == len(levels)-1
	next := 0
	for _, node := range levels[i] {
		low, high := 4, 8
		switch {
		case i == 0 && bottom:
			low = 0
		case i == 0:
			low, high = 2-1, 8-1
		case !bottom:
			low, high = 4-1, 8-1
		}
		if len(node) < low || len(node) > high {
			t.Fatalf("level %d of %d: a node of %d keys", i, len(levels), len(node))
		}
		for j := 1; j < len(node); j++ {
			if node[j-1] >= node[j] {
				t.Fatalf("level %d: keys do not rise: %q", i, node)
			}
		}
		if bottom {
			continue
		}
		for j := range len(node) + 1 {
			if next+j >= len(levels[i+1]) {
				t.Fatalf("level %d has too few nodes", i+1)
			}
			for _, k := range leafKeys(levels, i+1, next+j) {
				if j > 0 && k < node[j-1] || j < len(node) && k >= node[j] {
					t.Fatalf("level %d: %q under child %d of %q", i, k, j, node)
				}
			}
		}
		next += len(node) + 1
	}
	if !bottom && next != len(levels[i+1]) {
		t.Fatalf("level %d has %d nodes, not %d", i+1, len(levels[i+1]), next)
	}
}

// leafKeys are the keys of all leaves under node j of level i.
func leafKeys(levels [][][]string, i, j int) []string {
	first, behind := j, j+1
	for ; i < len(levels)-1; i++ {
		a, b := 0, 0
		for x, node := range levels[i] {
			if x < first {
				a += len(node) + 1
			}
			if x < behind {
				b += len(node) + 1
			}
		}
		first, behind = a, b
	}
	if behind > len(levels[i]) {
		return nil
	}
	return slices.Concat(levels[i][first:behind]...)
}

// key is the text of a number, of a length of its own.
func key(i int) string {
	return fmt.Sprintf("%04d", i) + strings.Repeat("k", i%3)
}

// orders are ways to go through the numbers below n.
func orders(n int) map[string][]int {
	rising := make([]int, n)
	for i := range rising {
		rising[i] = i
	}
	falling := slices.Clone(rising)
	slices.Reverse(falling)
	var inward, outward []int
	for i := range n {
		x := i / 2
		if i%2 == 1 {
			x = n - 1 - i/2
		}
		inward = append(inward, x)
	}
	outward = slices.Clone(inward)
	slices.Reverse(outward)
	return map[string][]int{
		"rising": rising, "falling": falling, "inward": inward, "outward": outward,
		"mixed": rand.New(rand.NewSource(int64(n))).Perm(n), "mixed again": rand.New(rand.NewSource(int64(n) + 1)).Perm(n),
	}
}

// built is the tree of these numbers' keys, put in their order, and its list.
func built(numbers []int) (*Tree, list) {
	b := New()
	var l list
	for _, i := range numbers {
		b = b.Put(key(i), fmt.Sprint("v", i))
		l = append(l, item{key(i), fmt.Sprint("v", i)})
	}
	slices.SortFunc(l, func(a, b item) int { return strings.Compare(a.key, b.key) })
	return b, l
}

// 8.1

func TestTheTreeWithoutKeys(t *testing.T) {
	b := New()
	tells(t, b, nil)
	for _, k := range []string{"", "a", "\x00", "\xff"} {
		asks(t, b, nil, k)
	}
	if l := b.Levels(); len(l) != 1 || len(l[0]) != 1 || len(l[0][0]) != 0 {
		t.Errorf("%q", l)
	}
}

func TestAgainstASortedList(t *testing.T) {
	for seed := range int64(12) {
		r := rand.New(rand.NewSource(seed))
		keys := 1 + r.Intn(400)
		b := New()
		var l list
		for i := range 1500 {
			k, v := key(r.Intn(keys)), fmt.Sprint(i)
			// For a while more comes than goes, for a while the other way round.
			if r.Intn(10) < 3+4*(i/300%2) {
				c, ok := b.Del(k)
				if _, is := l.get(k); ok != is || !is && c != b {
					t.Fatal(seed, i, k, ok)
				}
				b, l = c, l.del(k)
			} else {
				b, l = b.Put(k, v), l.put(k, v)
			}
			tells(t, b, l)
			asks(t, b, l, k)
			asks(t, b, l, key(r.Intn(keys)))
			asks(t, b, l, key(r.Intn(keys))+"\x00")
		}
	}
}

// TestEveryKeyOfEverySize takes away, overwrites and adds each key of trees of every size, built in several orders.
func TestEveryKeyOfEverySize(t *testing.T) {
	for n := range 75 {
		for _, order := range orders(n) {
			b, l := built(order)
			tells(t, b, l)
			for _, x := range l {
				for _, k := range around(x.key) {
					asks(t, b, l, k)
				}
				c, ok := b.Del(x.key)
				if !ok {
					t.Fatal(n, x.key)
				}
				tells(t, c, l.del(x.key))
				asks(t, c, l.del(x.key), x.key)
				tells(t, b.Put(x.key, "new"), l.put(x.key, "new"))
				tells(t, b.Put(x.key+"~", "more"), l.put(x.key+"~", "more"))
			}
			tells(t, b.Put("", "first"), l.put("", "first"))
		}
	}
}

func TestKeysAreBytes(t *testing.T) {
	keys := []string{
		"", "\x00", "\x00\x00", "\x00\x01", "\x01", " ", "A", "Z", "a", "a\x00", "a\x00b", "a\x01", "a/", "a/b", "aa", "ab", "b",
		"z", "\x7f", "\x80", "\xc3", "é", "é\x00", "e\u0301", "\u07ff", "\uffff", "\U0001F600", "\xf8", "\xfe", "\xff", "\xff\x00", "\xff\xff",
		strings.Repeat("a", 2048), strings.Repeat("a", 2049), strings.Repeat("a", 2048) + "\x00", strings.Repeat("\xff", 70000),
	}
	for seed := range int64(40) {
		b := New()
		var l list
		r := rand.New(rand.NewSource(seed))
		for _, i := range r.Perm(len(keys)) {
			b, l = b.Put(keys[i], keys[len(keys)-1-i]), l.put(keys[i], keys[len(keys)-1-i])
			tells(t, b, l)
		}
		for _, k := range keys {
			for _, x := range around(k) {
				asks(t, b, l, x)
			}
		}
		for _, i := range r.Perm(len(keys)) {
			b, _ = b.Del(keys[i])
			l = l.del(keys[i])
			tells(t, b, l)
			asks(t, b, l, keys[i])
		}
	}
}

func TestTheLastPutHolds(t *testing.T) {
	b, l := built(orders(60)["mixed"])
	for _, v := range []string{"", "x", "x", "", strings.Repeat("v", 70000), "\x00"} {
		for i := range 60 {
			b, l = b.Put(key(i), v), l.put(key(i), v)
			if got, ok := b.Get(key(i)); got != v || !ok {
				t.Fatal(i, len(got), ok)
			}
		}
		tells(t, b, l)
	}
	// A value without bytes is one.
	c := New().Put("a", "")
	tells(t, c, list{{"a", ""}})
	asks(t, c, list{{"a", ""}}, "a")
}

func TestDelOfAKeyThatIsNotThere(t *testing.T) {
	for _, n := range []int{0, 1, 8, 9, 40, 300} {
		b, l := built(orders(n)["mixed"])
		for i := range n + 1 {
			for _, k := range []string{key(i) + "x", key(i) + "\x00", key(i)[:3]} {
				if c, ok := b.Del(k); c != b || ok {
					t.Fatal(n, k, ok)
				}
			}
		}
		tells(t, b, l)
	}
}

func TestFromEveryPlace(t *testing.T) {
	for _, n := range []int{0, 1, 3, 4, 8, 9, 17, 64, 65, 200, 600} {
		b, l := built(orders(n)["mixed"])
		for i := range n {
			if got := told(b, l[i].key); !slices.Equal(got, l[i:]) {
				t.Fatal(n, i, len(got))
			}
			if got := told(b, l[i].key+"\x00"); !slices.Equal(got, l[i+1:]) {
				t.Fatal(n, i, len(got))
			}
		}
		for _, k := range []string{"~", "\xff", key(n), key(9999)} {
			if got := told(b, k); len(got) != 0 {
				t.Fatal(n, k, got)
			}
		}
	}
}

// 8.2, 8.4

func TestTheShapeOfTreesThatGrowAndShrink(t *testing.T) {
	const n = 180
	for coming, puts := range orders(n) {
		for going, dels := range orders(n) {
			b := New()
			for i, x := range puts {
				b = b.Put(key(x), "v")
				shaped(t, b)
				if b.Len() != i+1 {
					t.Fatal(coming, i, b.Len())
				}
			}
			for i, x := range dels {
				c, ok := b.Del(key(x))
				if b = c; !ok {
					t.Fatal(coming, going, i)
				}
				shaped(t, b)
				if b.Len() != n-1-i {
					t.Fatal(coming, going, i, b.Len())
				}
			}
			tells(t, b, nil)
		}
	}
}

func TestTheShapeOfTreesThatStay(t *testing.T) {
	for seed := range int64(6) {
		r := rand.New(rand.NewSource(seed))
		b, _ := built(r.Perm(300))
		for range 1500 {
			// As many go as come, so that nodes are put together and cut over and over.
			b, _ = b.Del(key(r.Intn(600)))
			shaped(t, b)
			b = b.Put(key(r.Intn(600)), "v")
			shaped(t, b)
		}
	}
}

func TestLevelsOfGreatTrees(t *testing.T) {
	const n = 17000
	for name, order := range orders(n) {
		b := New()
		for i, x := range order {
			b = b.Put(fmt.Sprintf("%06d", x), "")
			// Where a power of 4 is passed the bound is tightest.
			if k := i + 1; k&(k-1) == 0 || (k+1)&k == 0 {
				shaped(t, b)
			}
		}
		shaped(t, b)
		for i, x := range order[:n-1] {
			b, _ = b.Del(fmt.Sprintf("%06d", x))
			if k := n - 1 - i; k&(k-1) == 0 || (k+1)&k == 0 {
				shaped(t, b)
			}
		}
		if l := b.Levels(); len(l) != 1 || b.Len() != 1 {
			t.Fatal(name, len(l), b.Len())
		}
	}
}

// 8.3

// kept is a tree, and all that it told when it was made.
type kept struct {
	tree   *Tree
	list   list
	levels [][][]string
}

func TestWhatWasToldStays(t *testing.T) {
	for seed := range int64(5) {
		r := rand.New(rand.NewSource(seed))
		b, l := built(r.Perm(r.Intn(300)))
		all := []kept{{b, l, b.Levels()}}
		for i := range 600 {
			// Of whichever tree, be it made long ago.
			from := all[r.Intn(len(all))]
			if r.Intn(2) == 0 {
				from = all[len(all)-1]
			}
			k, v := key(r.Intn(400)), fmt.Sprint(i)
			b, l := from.tree.Put(k, v), from.list.put(k, v)
			if r.Intn(2) == 0 {
				b, _ = from.tree.Del(k)
				l = from.list.del(k)
			}
			tells(t, b, l)
			all = append(all, kept{b, l, b.Levels()})
		}
		for i, x := range all {
			tells(t, x.tree, x.list)
			if !slices.EqualFunc(x.tree.Levels(), x.levels, func(a, b [][]string) bool { return slices.EqualFunc(a, b, slices.Equal) }) {
				t.Fatal(seed, i, "another shape than before")
			}
		}
	}
}

func TestManyTreesOfOne(t *testing.T) {
	for _, n := range []int{0, 4, 7, 8, 9, 31, 64, 65, 150} {
		b, l := built(orders(n)["mixed"])
		var more []*Tree
		for i := range n + 1 {
			more = append(more, b.Put(key(i), "other"), b.Put(key(i)+"~", "more"))
		}
		tells(t, b, l)
		for i := range n + 1 {
			tells(t, more[2*i], l.put(key(i), "other"))
			tells(t, more[2*i+1], l.put(key(i)+"~", "more"))
		}
	}
}

func TestTheSameKeysTellTheSame(t *testing.T) {
	for _, n := range []int{0, 1, 8, 9, 30, 64, 200, 500} {
		var trees []*Tree
		for _, order := range orders(n) {
			b, _ := built(order)
			trees = append(trees, b)
			// And by way of keys and values that go again.
			c := New()
			for _, x := range order {
				c = c.Put(key(x)+"-", "goes").Put(key(x), "goes, too")
			}
			for _, x := range order {
				c = c.Put(key(x), fmt.Sprint("v", x))
				c, _ = c.Del(key(x) + "-")
			}
			trees = append(trees, c)
		}
		_, want := built(orders(n)["rising"])
		for _, b := range trees {
			tells(t, b, want)
			for i := range min(n+1, 70) {
				asks(t, b, want, key(i))
				asks(t, b, want, key(i)+"-")
			}
		}
	}
}

// nodes are all nodes of a tree.
func nodes(b *Tree) map[node]int {
	all := map[node]int{}
	for row := []node{b.root}; len(row) > 0; row = below(row) {
		for _, n := range row {
			all[n]++
		}
	}
	return all
}

func TestNodesAreShared(t *testing.T) {
	b, _ := built(orders(2000)["mixed"])
	old := nodes(b)
	made := func(c *Tree) int {
		n := 0
		for x := range nodes(c) {
			if old[x] == 0 {
				n++
			}
		}
		return n
	}
	levels := len(b.Levels())
	for i := range 2000 {
		if n := made(b.Put(key(i), "new")); n != levels {
			t.Fatal("overwritten", i, n, levels)
		}
		// Each level's may be two: the halves of a node that was cut, or a node and the one beside it.
		if n := made(b.Put(key(i)+"~", "more")); n > 2*levels+1 {
			t.Fatal("put", i, n, levels)
		}
		c, _ := b.Del(key(i))
		if n := made(c); n > 2*levels {
			t.Fatal("taken away", i, n, levels)
		}
	}
}

// forgets fails the test if the tree keeps pairs or children beside its own, in the room behind a list.
func forgets(t *testing.T, b *Tree) {
	t.Helper()
	for n := range nodes(b) {
		switch n := n.(type) {
		case *leaf:
			for _, p := range n.pairs[len(n.pairs):cap(n.pairs)] {
				if p != (pair{}) {
					t.Fatal("a leaf keeps", p)
				}
			}
		case *inner:
			for _, c := range n.children[len(n.children):cap(n.children)] {
				if c != nil {
					t.Fatal("a node keeps", c.keys())
				}
			}
		}
	}
}

func TestWhatIsGoneIsForgotten(t *testing.T) {
	r := rand.New(rand.NewSource(8))
	for _, order := range orders(300) {
		b, _ := built(order)
		forgets(t, b)
		for range 1000 {
			b, _ = b.Del(key(r.Intn(400)))
			b = b.Put(key(r.Intn(400)), "v")
		}
		forgets(t, b)
	}
}

func TestALoopBeginsAtItsLeaf(t *testing.T) {
	b, l := built(orders(500)["mixed"])
	for i, x := range l {
		pairs := 0
		for leaf := range leavesFrom(b.root, x.key) {
			pairs += len(leaf.pairs)
		}
		if pairs < len(l)-i || pairs >= len(l)-i+8 {
			t.Fatal(i, pairs)
		}
	}
}

// 8.5

func TestALoopMayBeLeft(t *testing.T) {
	for _, n := range []int{0, 1, 8, 9, 40, 300} {
		b, l := built(orders(n)["mixed"])
		for stop := range n + 1 {
			var got list
			for k, v := range b.From("") {
				if len(got) == stop {
					break
				}
				got = append(got, item{k, v})
			}
			if !slices.Equal(got, l[:stop]) {
				t.Fatal(n, stop, got)
			}
			calls := 0
			b.From("")(func(string, string) bool {
				calls++
				return calls < stop
			})
			if want := min(max(stop, 1), n); calls != want {
				t.Fatal(n, stop, "a loop that was left goes on", calls)
			}
		}
	}
}

func TestALoopThatPanics(t *testing.T) {
	b, l := built(orders(100)["mixed"])
	for stop := range 100 {
		func() {
			defer func() {
				if x := recover(); x != stop {
					t.Error(stop, x)
				}
			}()
			i := 0
			for range b.From("") {
				if i == stop {
					panic(stop)
				}
				i++
			}
		}()
	}
	tells(t, b, l)
}

func TestLoopsInLoops(t *testing.T) {
	b, l := built(orders(70)["mixed"])
	loop := b.From("")
	i := 0
	for k, v := range loop {
		if l[i] != (item{k, v}) {
			t.Fatal(i, k, v)
		}
		j := 0
		for k, v := range loop {
			if l[j] != (item{k, v}) {
				t.Fatal(i, j, k, v)
			}
			j++
		}
		// What is made of the tree meanwhile is not seen by the loop.
		c, ok := b.Del(k)
		if !ok {
			t.Fatal(k)
		}
		c.Put(k, "new").Put(k+"~", "new")
		if j != 70 {
			t.Fatal(i, j)
		}
		i++
	}
	if i != 70 {
		t.Fatal(i)
	}
}

func TestListsAreNewMemory(t *testing.T) {
	for _, n := range []int{0, 1, 5, 8, 9, 30, 64, 300} {
		b, l := built(orders(n)["mixed"])
		want := fmt.Sprintf("%q", b.Levels())
		got := b.Levels()
		scribbled := 0
		for i, row := range got {
			for j, node := range row {
				node = node[:cap(node)]
				for x := range node {
					if node[x] == "scribbled" {
						t.Fatal(n, i, j, "two lists share memory")
					}
					node[x] = "scribbled"
					scribbled++
				}
			}
			row = row[:cap(row)]
			for j := range row {
				row[j] = []string{"scribbled"}
			}
		}
		for i := range got[:cap(got)] {
			got[:cap(got)][i] = nil
		}
		if scribbled < n {
			t.Fatal(n, scribbled)
		}
		if again := fmt.Sprintf("%q", b.Levels()); again != want {
			t.Fatal(n, "the tree shares memory with what it told", again)
		}
		tells(t, b, l)
		c := b.Put("~", "")
		tells(t, c, l.put("~", ""))
	}
}

func TestManyReadOneTree(t *testing.T) {
	b, l := built(orders(300)["mixed"])
	var wait sync.WaitGroup
	wrong := make([]bool, 8)
	for i := range wrong {
		wait.Go(func() {
			c := b
			for j := range 300 {
				c, _ = c.Del(key((j + 37*i) % 300))
				c = c.Put(key(j)+"~", fmt.Sprint(i))
			}
			wrong[i] = c.Len() != 300 || len(told(c, "")) != 300
		})
	}
	wait.Wait()
	if slices.Contains(wrong, true) {
		t.Error(wrong)
	}
	tells(t, b, l)
}

// run goes by the bytes of a text: what is done, with which key.
func run(t *testing.T, text string) {
	b := New()
	var l list
	var all []kept
	for i := 0; i+1 < len(text); i += 2 {
		k, v := text[i+1:i+2], fmt.Sprint(i)
		switch text[i] % 4 {
		case 0, 1:
			b, l = b.Put(k, v), l.put(k, v)
		case 2:
			c, ok := b.Del(k)
			if _, is := l.get(k); ok != is || !is && c != b {
				t.Fatal(i, k, ok)
			}
			b, l = c, l.del(k)
		case 3:
			asks(t, b, l, k)
			asks(t, b, l, k+"\x00")
			all = append(all, kept{tree: b, list: l})
		}
		tells(t, b, l)
	}
	for _, x := range all {
		tells(t, x.tree, x.list)
	}
}

func FuzzTree(f *testing.F) {
	f.Add("")
	f.Add("\x00a\x00b\x02a\x03a\x02b")
	var grow, shrink string
	for i := range 200 {
		grow += string([]byte{0, byte(i * 37), 3, byte(i)})
		shrink += string([]byte{2, byte(i * 91), 3, byte(i)})
	}
	f.Add(grow)
	f.Add(grow + shrink)
	f.Add(grow + shrink + grow)
	f.Fuzz(run)
}

// The chapter's examples.

func TestExamples(t *testing.T) {
	b := New().Put("b", "1").Put("a", "2")
	if got := told(b, ""); !slices.Equal(got, list{{"a", "2"}, {"b", "1"}}) {
		t.Error(got)
	}
	if l := b.Levels(); len(l) != 1 || len(l[0]) != 1 || !slices.Equal(l[0][0], []string{"a", "b"}) {
		t.Errorf("%q", l)
	}
	if c, ok := b.Del("c"); c != b || ok {
		t.Error(ok)
	}
}
