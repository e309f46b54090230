package kv

import (
	"bytes"
	"encoding/binary"
	"fmt"
	"maps"
	"math/rand"
	"slices"
	"strings"
	"testing"

	"stowage/api"
	"stowage/crashtest"
	"stowage/disk"
	"stowage/snap"
	"stowage/wal"
)

// 9.6, W2, W3

// step is a commit, or a checkpoint.
type step struct {
	changes    []Change
	checkpoint bool
}

func (x step) do(s *Store) api.Errno {
	if x.checkpoint {
		return s.Checkpoint()
	}
	return s.Commit(x.changes)
}

// script is a row of steps, the pairs behind the first k commits that go well in it, and where it goes on behind the k-th of them.
type script struct {
	steps  []step
	pairs  []map[string]string
	behind []int
}

func newScript(sectors int, steps []step) script {
	x := script{steps, []map[string]string{nil}, []int{0}}
	m := newModel(sectors)
	for i, y := range steps {
		if !y.checkpoint && m.commit(y.changes) == api.OK {
			x.pairs = append(x.pairs, m.pairs)
			x.behind = append(x.behind, i+1)
		}
	}
	return x
}

// run makes the steps from one on until the device fails: how many commits of all are answered, and how many there may be.
func (x script) run(t *testing.T, s *Store, from int) (least, most int) {
	t.Helper()
	for _, y := range x.steps[from:] {
		was := s.Commits()
		switch e := y.do(s); e {
		case api.OK, api.ErrArg, api.ErrFull:
		case api.ErrDead:
			if s.Commits() != was {
				t.Fatal("a commit that failed is told")
			}
			if y.checkpoint {
				return was, was
			}
			return was, was + 1
		default:
			t.Fatal(e)
		}
	}
	return s.Commits(), s.Commits()
}

// opens fails the test unless the device opens with at least and at most that many commits, wholly; a crash while it opens makes no difference.
func (x script) opens(t *testing.T, d *disk.Dev, least, most int) *Store {
	t.Helper()
	var s *Store
	untouched(t, d, func() { s = mustOpen(t, d) })
	if s.Commits() < least || s.Commits() > most {
		t.Fatal(s.Commits(), "commits, not", least, "to", most)
	}
	holds(t, s, x.pairs[s.Commits()])
	d.Crash([]bool{true, false, true})
	again := mustOpen(t, d)
	if again.Commits() != s.Commits() || again.Epoch() != s.Epoch() || again.Room() != s.Room() {
		t.Fatal("opened again it tells something else")
	}
	holds(t, again, x.pairs[s.Commits()])
	return again
}

// finishes goes on behind a crash up to the script's end.
func (x script) finishes(t *testing.T, d *disk.Dev, s *Store) {
	t.Helper()
	all := len(x.pairs) - 1
	if k, _ := x.run(t, s, x.behind[s.Commits()]); k != all {
		t.Fatal(k, "commits of", all)
	}
	d.Crash(nil)
	x.opens(t, d, all, all)
}

// crashesAgain goes on behind a crash on copies of the device, up to another one.
func (x script) crashesAgain(t *testing.T, d *disk.Dev) {
	t.Helper()
	for fuse := range 14 {
		c := d.Copy()
		s := mustOpen(t, c)
		c.Fuse(fuse)
		least, most := x.run(t, s, x.behind[s.Commits()])
		for _, keep := range crashtest.Keeps(c.Pending()) {
			k := c.Copy()
			k.Crash(keep)
			x.opens(t, k, least, most)
		}
	}
}

// steps are commits and checkpoints of many kinds, for a device of 32 sectors: its slots hold 768 bytes, its log 2,048.
func steps() []step {
	checkpoint := step{checkpoint: true}
	commit := func(l ...Change) step { return step{changes: l} }
	return []step{
		commit(put("a", "1"), put("b", "2")),
		commit(),
		commit(put("a", xs(300)), del("b")),
		checkpoint,
		checkpoint,
		commit(put("c", xs(200)), put("c", "short")),
		commit(put("", "refused")),
		commit(put("d", "4"), del("a"), put("e", ""), put("d", "5")),
		commit(put("full", xs(769))),
		checkpoint,
		commit(put("f", xs(600))),
		commit(put("f", strings.Repeat("g", 600)), del("c")),
		// This one finds no room in the log, so a checkpoint comes first.
		commit(put("f", strings.Repeat("h", 600)), put("i", "j")),
		commit(slices.Repeat([]Change{put("f", xs(600))}, 4)...), // and this one none even then
		commit(del("f"), del("d"), put("k", xs(255))),
		commit(put("k", xs(256)), put("l", xs(256)), put("m", "n")),
		commit(del("k"), del("l"), put("a", xs(500))),
		checkpoint,
		commit(del("a")),
		commit(put("z", xs(90)), put("y", xs(90)), put("x", xs(90)), del("m"), del("i")),
		commit(del("e"), del("x"), del("y"), del("z")),
	}
}

func TestEveryCrash(t *testing.T) {
	x := newScript(32, steps())
	if len(x.pairs) != 14+1 {
		t.Fatal(len(x.pairs))
	}
	cut, crashes := 0, 0
	for fuse := 0; ; fuse++ {
		d := crashtest.Device(t, 32, 0xEE)
		s := mustOpen(t, d)
		d.Fuse(fuse)
		least, most := x.run(t, s, 0)
		dead := d.Dead()
		if dead {
			cut++
		}
		for _, keep := range crashtest.Keeps(d.Pending()) {
			c := d.Copy()
			c.Crash(keep)
			x.opens(t, c, least, most)
			x.crashesAgain(t, c)
			x.finishes(t, c, mustOpen(t, c))
			crashes++
		}
		if !dead {
			break
		}
	}
	if cut < 100 || crashes < 200 {
		t.Error("too few crashes", cut, crashes)
	}
}

// TestACommitUnderWay: of the commits that fail some are there, and some are not.
func TestACommitUnderWay(t *testing.T) {
	x := newScript(32, steps())
	seen := map[int]int{}
	for fuse := range 120 {
		d := crashtest.Device(t, 32, 0xEE)
		s := mustOpen(t, d)
		d.Fuse(fuse)
		least, most := x.run(t, s, 0)
		if least == most {
			continue
		}
		for _, keep := range crashtest.Keeps(d.Pending()) {
			c := d.Copy()
			c.Crash(keep)
			seen[x.opens(t, c, least, most).Commits()-least]++
		}
	}
	if seen[0] == 0 || seen[1] == 0 {
		t.Error(seen)
	}
}

// TestCrashesBehindCrashes lets a script go on behind crash after crash, with sectors of others in the cache.
func TestCrashesBehindCrashes(t *testing.T) {
	for seed := range int64(80) {
		r := rand.New(rand.NewSource(seed))
		sectors := []int{32, 40, 64, 100}[r.Intn(4)]
		var l []step
		for range 60 {
			l = append(l, step{changes: someChanges(r), checkpoint: r.Intn(9) == 0})
		}
		x := newScript(sectors, l)
		d := crashtest.Device(t, sectors, 0xEE)
		s := mustOpen(t, d)
		from, size := Data(sectors)
		for done := false; !done; {
			for range r.Intn(3) {
				if e := d.Write(from+r.Intn(size), bytes.Repeat([]byte{byte(r.Intn(256))}, 256)); e != api.OK {
					t.Fatal(e)
				}
			}
			d.Fuse(r.Intn(25))
			least, most := x.run(t, s, x.behind[s.Commits()])
			done = !d.Dead()
			keep := make([]bool, d.Pending())
			for i := range keep {
				keep[i] = r.Intn(2) == 0
			}
			d.Crash(keep)
			s = x.opens(t, d, least, most)
		}
		if s.Commits() != len(x.pairs)-1 {
			t.Fatal(seed, s.Commits(), len(x.pairs)-1)
		}
	}
}

// TestTheFirstCheckpointCrashes: there is no state before it, and frames in the log.
func TestTheFirstCheckpointCrashes(t *testing.T) {
	x := newScript(32, []step{{changes: []Change{put("a", xs(400))}}, {changes: []Change{put("b", xs(300))}}, {checkpoint: true}})
	for fuse := range 7 {
		d := crashtest.Device(t, 32, 0)
		s := mustOpen(t, d)
		for _, y := range x.steps[:2] {
			mustCommit(t, s, y.changes...)
		}
		d.Fuse(fuse)
		if e := s.Checkpoint(); (e == api.OK) != (fuse == 6) {
			t.Fatal(fuse, e)
		}
		for _, keep := range crashtest.Keeps(d.Pending()) {
			c := d.Copy()
			c.Crash(keep)
			x.opens(t, c, 2, 2)
		}
	}
}

// 9.8

// unpacked, readRecord and readState tell straight from the chapter, by the library, what bytes say.

func unpacked(s string) ([]string, bool) {
	var texts []string
	for len(s) > 0 {
		if len(s) < 4 {
			return nil, false
		}
		n := int(binary.BigEndian.Uint32([]byte(s)))
		if n > len(s)-4 {
			return nil, false
		}
		texts = append(texts, s[4:4+n])
		s = s[4+n:]
	}
	return texts, true
}

func mayBe(k, v string) bool {
	return 1 <= len(k) && len(k) <= 2048 && len(v) <= 65536
}

func readRecord(s string) (Change, bool) {
	texts, ok := unpacked(s)
	if ok && len(texts) == 3 && texts[0] == "+" && mayBe(texts[1], texts[2]) {
		return put(texts[1], texts[2]), true
	}
	if ok && len(texts) == 2 && texts[0] == "-" && mayBe(texts[1], "") {
		return del(texts[1]), true
	}
	return Change{}, false
}

func readState(s string) (commits uint64, pairs map[string]string, ok bool) {
	texts, ok := unpacked(s)
	if !ok || len(texts) == 0 || len(texts[0]) != 8 {
		return 0, nil, false
	}
	commits = binary.BigEndian.Uint64([]byte(texts[0]))
	pairs = map[string]string{}
	rest := texts[1:]
	for i := range rest {
		if i%2 == 1 {
			pairs[rest[i-1]] = rest[i]
			ok = ok && mayBe(rest[i-1], rest[i])
		} else if i > 0 {
			ok = ok && strings.Compare(rest[i-2], rest[i]) < 0
		}
	}
	return commits, pairs, ok && len(rest)%2 == 0 && commits <= 1_000_000_000_000_000_000
}

// hostile opens a device that holds whatever bytes, holds what it tells against them, and goes on with it.
func hostile(t *testing.T, d *disk.Dev) {
	t.Helper()
	q := d.Size() / 8
	b, epoch, e := snap.Load(d, 0, q)
	if e == api.ErrNone {
		b, epoch = []byte(saved(0, nil)), 0
	}
	log, frames, _ := wal.Open(d, 2*q, 2*q, epoch)
	commits, pairs, ok := readState(string(b))
	for _, records := range frames {
		commits++
		for _, s := range records {
			c, is := readRecord(s)
			ok = ok && is
			pairs = changed(pairs, []Change{c})
		}
	}
	if !ok {
		refused(t, d)
		return
	}
	s := mustOpen(t, d)
	m := &model{q: q, pairs: pairs, commits: int(commits), epoch: int(epoch), room: log.Room()}
	tells(t, s, m)
	if m.commits > 1<<40 || m.epoch > 1<<40 || m.epoch < 0 {
		return
	}
	for _, k := range append(slices.Sorted(maps.Keys(pairs)), "not there") {
		both(t, s, m, put(k, "new"))
		both(t, s, m, del(k), put("k", ""))
	}
	bothCheckpoint(t, s, m)
	tells(t, mustOpen(t, d), m)
}

// noise is a text that is nearly a state, a record or something else.
func noise(r *rand.Rand) string {
	var s string
	switch r.Intn(5) {
	case 0, 1:
		n := r.Intn(4)
		texts := []string{counted(uint64(r.Intn(300)))}
		for i := range n {
			texts = append(texts, fmt.Sprint(i), xs(r.Intn(50)))
		}
		s = packed(texts...)
	case 2:
		s = recorded(put(fmt.Sprint(r.Intn(9)), xs(r.Intn(50))))
	case 3:
		s = recorded(del(fmt.Sprint(r.Intn(9))))
	case 4:
		s = packed([]string{"+", "-", "", "a", "b", counted(7)}[r.Intn(6)], []string{"", "a", "b"}[r.Intn(3)])
	}
	if r.Intn(3) == 0 && len(s) > 0 {
		b := []byte(s)
		b[r.Intn(len(b))] ^= 1 << r.Intn(8)
		s = string(b[:len(b)-r.Intn(2)])
	}
	return s
}

func TestHostileBytes(t *testing.T) {
	r := rand.New(rand.NewSource(99))
	for range 3000 {
		epoch := uint64(r.Intn(4))
		state := noise(r)
		if r.Intn(2) == 0 {
			state = saved(r.Intn(300), map[string]string{"a": "1", "b": ""})
		}
		d := laid(t, 32+r.Intn(40), epoch, state)
		var frames [][]string
		for range r.Intn(4) {
			var records []string
			for range r.Intn(4) {
				c := noise(r)
				if r.Intn(4) > 0 {
					c = recorded(put(fmt.Sprint(r.Intn(5)), xs(r.Intn(60))))
				}
				records = append(records, c)
			}
			frames = append(frames, records)
		}
		layFrames(t, d, epoch-uint64(r.Intn(8)/7), frames...)
		for range r.Intn(3) {
			at := r.Intn(d.Size())
			b, _ := d.Read(at)
			b[r.Intn(30)] ^= 1 << r.Intn(8)
			crashtest.Lay(t, d, at, b)
		}
		hostile(t, d)
	}
}

func TestNoiseAllOver(t *testing.T) {
	r := rand.New(rand.NewSource(100))
	for range 100 {
		d := crashtest.Device(t, 32+r.Intn(40), 0)
		b := make([]byte, d.Size()*256)
		r.Read(b)
		crashtest.Lay(t, d, 0, b)
		hostile(t, d)
	}
}

func FuzzOpen(f *testing.F) {
	f.Add(uint64(0), []byte(saved(3, map[string]string{"a": "1", "b": ""})), []byte(recorded(put("a", "2"))), []byte(recorded(del("b"))))
	f.Add(uint64(9), []byte(packed(counted(1), "a")), []byte(packed("+", "a")), []byte{})
	f.Add(uint64(1<<63), []byte{}, []byte(packed("-", "")), []byte(packed("-", "a", "")))
	f.Fuzz(func(t *testing.T, epoch uint64, state, one, two []byte) {
		if len(state) > 7*256 || 2*len(one)+len(two) > 3000 {
			return
		}
		d := laid(t, 64, epoch, string(state))
		layFrames(t, d, epoch, []string{string(one)}, []string{string(two), string(one)}[:len(two)%3])
		hostile(t, d)
	})
}

func FuzzCommit(f *testing.F) {
	f.Add("a", "1", false, "b", "", true)
	f.Add("", "", false, "", "", true)
	f.Add("k", xs(2000), false, "k", "v", true)
	f.Fuzz(func(t *testing.T, k1, v1 string, del1 bool, k2, v2 string, del2 bool) {
		d := crashtest.Device(t, 64, 0)
		s, m := mustOpen(t, d), newModel(64)
		for range 20 {
			both(t, s, m, Change{k1, v1, del1})
			both(t, s, m, Change{k2, v2, del2}, Change{k1, v1, del1})
			tells(t, mustOpen(t, d), m)
		}
	})
}
