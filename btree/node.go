package btree

import (
	"cmp"
	"iter"
	"slices"
)

// How many keys a leaf, and how many children an inner node has; the root may have fewer.
const (
	least = 4
	most  = 8
)

// node is a *leaf or an *inner. Neither is changed once it is made, nor are its lists, so trees may share nodes.
type node interface {
	// size tells how many there are of what least and most bound.
	size() int
	// keys tells the keys that stand in the node, in a list of its own.
	keys() []string
	// cut tells the node as a row of one; of two halves, if it is too great.
	cut() *inner
}

// pair is a key and its value.
type pair struct{ key, value string }

// leaf holds pairs by rising key.
type leaf struct{ pairs []pair }

// inner is a row of children. The key between two of them is above all keys of the left one, and at most every key of the right one.
type inner struct {
	between  []string
	children []node
}

func (l *leaf) size() int {
	return len(l.pairs)
}

func (n *inner) size() int {
	return len(n.children)
}

func (l *leaf) keys() []string {
	var keys []string
	for _, p := range l.pairs {
		keys = append(keys, p.key)
	}
	return keys
}

func (n *inner) keys() []string {
	return slices.Clone(n.between)
}

func (l *leaf) cut() *inner {
	if l.size() <= most {
		return &inner{children: []node{l}}
	}
	half := l.size() / 2
	left, right := l.piece(0, half), l.piece(half, l.size())
	return &inner{[]string{l.pairs[half].key}, []node{left, right}}
}

func (n *inner) cut() *inner {
	if n.size() <= most {
		return &inner{children: []node{n}}
	}
	half := n.size() / 2
	left, right := n.piece(0, half), n.piece(half, n.size())
	return &inner{[]string{n.between[half-1]}, []node{left, right}}
}

// piece tells the pairs from i to ahead of j as a leaf. Its list is its own, lest it keep the other pairs from being forgotten.
func (l *leaf) piece(i, j int) *leaf {
	return &leaf{slices.Clone(l.pairs[i:j])}
}

// piece tells the children from i to ahead of j as a node, likewise.
func (n *inner) piece(i, j int) *inner {
	return &inner{slices.Clone(n.between[i : j-1]), slices.Clone(n.children[i:j])}
}

// place tells where k is, or would be, among the pairs, and whether it is there.
func (l *leaf) place(k string) (int, bool) {
	return slices.BinarySearchFunc(l.pairs, k, func(p pair, k string) int { return cmp.Compare(p.key, k) })
}

// place tells under which child k belongs.
func (n *inner) place(k string) int {
	i, found := slices.BinarySearch(n.between, k)
	if found {
		return i + 1
	}
	return i
}

// get tells the value of k; false, if it is not there.
func (l *leaf) get(k string) (string, bool) {
	i, found := l.place(k)
	if !found {
		return "", false
	}
	return l.pairs[i].value, true
}

// from tells the pairs from k on.
func (l *leaf) from(k string) []pair {
	i, _ := l.place(k)
	return l.pairs[i:]
}

// put tells the leaf with k and v, which may be too great.
func (l *leaf) put(k, v string) *leaf {
	i, found := l.place(k)
	behind := l.pairs[i:]
	if found {
		behind = behind[1:]
	}
	return &leaf{slices.Concat(l.pairs[:i], []pair{{k, v}}, behind)}
}

// del tells the leaf without k, which is there; it may be too small.
func (l *leaf) del(k string) *leaf {
	i, _ := l.place(k)
	return &leaf{slices.Concat(l.pairs[:i], l.pairs[i+1:])}
}

// with tells the node with a row in the place of its children from i to ahead of j.
func (n *inner) with(i, j int, row *inner) *inner {
	return &inner{
		slices.Concat(n.between[:i], row.between, n.between[j-1:]),
		slices.Concat(n.children[:i], row.children, n.children[j:]),
	}
}

// mend puts child i together with one beside it, if it is too small.
func (n *inner) mend(i int) *inner {
	if n.children[i].size() >= least {
		return n
	}
	i = max(i-1, 0)
	both := join(n.children[i], n.between[i], n.children[i+1])
	return n.with(i, i+2, both.cut())
}

// top tells the root of a tree whose nodes are under n: a row of one is not worth a level.
func (n *inner) top() node {
	var root node = n
	for {
		row, ok := root.(*inner)
		if !ok || row.size() > 1 {
			return root
		}
		root = row.children[0]
	}
}

// join tells two nodes that stand side by side as one, which may be too great.
func join(left node, between string, right node) node {
	if l, ok := left.(*leaf); ok {
		return &leaf{slices.Concat(l.pairs, right.(*leaf).pairs)}
	}
	l, r := left.(*inner), right.(*inner)
	return &inner{
		slices.Concat(l.between, []string{between}, r.between),
		slices.Concat(l.children, r.children),
	}
}

// change tells n, as a row of one or two, with the leaf edited where k belongs. Only the nodes on the way down to it, and one beside each that gets too small, are made anew.
func change(n node, k string, edit func(*leaf) *leaf) *inner {
	if l, ok := n.(*leaf); ok {
		return edit(l).cut()
	}
	in := n.(*inner)
	i := in.place(k)
	return in.with(i, i+1, change(in.children[i], k, edit)).mend(i).cut()
}

// leafOf tells the leaf under n where k belongs.
func leafOf(n node, k string) *leaf {
	for {
		if l, ok := n.(*leaf); ok {
			return l
		}
		in := n.(*inner)
		n = in.children[in.place(k)]
	}
}

// leavesFrom tells the leaves under n from the one where k belongs on.
func leavesFrom(n node, k string) iter.Seq[*leaf] {
	return func(yield func(*leaf) bool) {
		if l, ok := n.(*leaf); ok {
			yield(l)
			return
		}
		in := n.(*inner)
		for _, c := range in.children[in.place(k):] {
			for l := range leavesFrom(c, k) {
				if !yield(l) {
					return
				}
			}
		}
	}
}

// below tells the children of all nodes of a level.
func below(level []node) []node {
	var row []node
	for _, n := range level {
		if in, ok := n.(*inner); ok {
			row = append(row, in.children...)
		}
	}
	return row
}
