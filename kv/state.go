package kv

import (
	"slices"

	"stowage/api"
	"stowage/btree"
	"stowage/disk"
	"stowage/enc"
	"stowage/snap"
)

// mostCommits is the greatest count that a saved state may tell.
const mostCommits = 1_000_000_000_000_000_000

// What a record does.
const (
	puts = "+"
	dels = "-"
)

// textHead is how many bytes enc.Pack puts ahead of each text.
const textHead = 4

// countSize is how many bytes the count takes in a saved state.
const countSize = textHead + 8

// state is what a number of commits made. It is a value: a commit makes another one.
type state struct {
	tree    *btree.Tree
	commits int
	size    int // how many bytes pack tells: kept, since each commit asks for it
}

// empty tells the state ahead of all commits.
func empty() state {
	return state{tree: btree.New(), size: countSize}
}

// with tells the state behind one commit more, of these changes.
func (s state) with(l []Change) state {
	for _, c := range l {
		if c.Del {
			s = s.del(c.Key)
		} else {
			s = s.put(c.Key, c.Value)
		}
	}
	s.commits++
	return s
}

// put tells the state with k and v.
func (s state) put(k, v string) state {
	s.size += pairSize(k, v) - s.sizeOf(k)
	s.tree = s.tree.Put(k, v)
	return s
}

// del tells the state without k, be it there or not.
func (s state) del(k string) state {
	s.size -= s.sizeOf(k)
	s.tree, _ = s.tree.Del(k)
	return s
}

// sizeOf tells how many bytes of the size are those of k and its value: none, if it is not there.
func (s state) sizeOf(k string) int {
	v, ok := s.tree.Get(k)
	if !ok {
		return 0
	}
	return pairSize(k, v)
}

// fits tells whether a slot of the device holds the state.
func (s state) fits(d *disk.Dev) bool {
	return snap.Fits(eighth(d.Size()), s.size)
}

// pack tells the bytes that are saved.
func (s state) pack() []byte {
	texts := []string{string(enc.Put64(uint64(s.commits)))}
	for k, v := range s.tree.From("") {
		texts = append(texts, k, v)
	}
	return enc.Pack(texts)
}

// unpack tells the state whose pack b is; false, if there is none.
func unpack(b []byte) (state, bool) {
	texts, ok := enc.Unpack(b)
	// A count and pairs are an odd number of texts.
	if !ok || len(texts)%2 == 0 {
		return state{}, false
	}
	commits, ok := enc.Get64([]byte(texts[0]))
	if !ok || commits > mostCommits {
		return state{}, false
	}
	s := empty()
	s.commits = int(commits)
	last := ""
	for pair := range slices.Chunk(texts[1:], 2) {
		c := Change{Key: pair[0], Value: pair[1]}
		if !c.allowed() || c.Key <= last {
			return state{}, false
		}
		s = s.put(c.Key, c.Value)
		last = c.Key
	}
	return s, true
}

// replay tells the state behind the commits of these frames; false, if a record is none.
func (s state) replay(frames [][]string) (state, bool) {
	for _, records := range frames {
		var l []Change
		for _, r := range records {
			c, ok := parse(r)
			if !ok {
				return state{}, false
			}
			l = append(l, c)
		}
		s = s.with(l)
	}
	return s, true
}

// recordsOf tells the changes as records. It goes no further than they have more bytes than the log takes: no frame of them can be, whatever comes behind.
func recordsOf(l []Change, most int) []string {
	var records []string
	size := 0
	for _, c := range l {
		if size > most {
			break
		}
		r := c.record()
		records = append(records, r)
		size += len(r)
	}
	return records
}

// record tells the change as it is written.
func (c Change) record() string {
	if c.Del {
		return string(enc.Pack([]string{dels, c.Key}))
	}
	return string(enc.Pack([]string{puts, c.Key, c.Value}))
}

// parse tells the change whose record r is; false, if there is none.
func parse(r string) (Change, bool) {
	texts, ok := enc.Unpack([]byte(r))
	var c Change
	switch {
	case ok && len(texts) == 3 && texts[0] == puts:
		c = Change{Key: texts[1], Value: texts[2]}
	case ok && len(texts) == 2 && texts[0] == dels:
		c = Change{Key: texts[1], Del: true}
	}
	// The change that none of them told has no key, so it is refused, too.
	if !c.allowed() {
		return Change{}, false
	}
	return c, true
}

// allowed tells whether a commit may have the change.
func (c Change) allowed() bool {
	return c.Key != "" && len(c.Key) <= api.MaxKey && len(c.Value) <= api.MaxValue && (!c.Del || c.Value == "")
}

func allAllowed(l []Change) bool {
	return !slices.ContainsFunc(l, func(c Change) bool { return !c.allowed() })
}

// pairSize tells how many bytes a pair takes in a saved state.
func pairSize(k, v string) int {
	return textHead + len(k) + textHead + len(v)
}
