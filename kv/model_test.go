package kv

import (
	"encoding/binary"
	"maps"
	"slices"
	"strings"
	"testing"

	"stowage/api"
	"stowage/crashtest"
	"stowage/disk"
	"stowage/snap"
	"stowage/wal"
)

// packed, recorded and saved tell straight from the chapter, by the library, what is written.

func packed(texts ...string) string {
	var b []byte
	for _, s := range texts {
		b = binary.BigEndian.AppendUint32(b, uint32(len(s)))
		b = append(b, s...)
	}
	return string(b)
}

func recorded(c Change) string {
	if c.Del {
		return packed("-", c.Key)
	}
	return packed("+", c.Key, c.Value)
}

func counted(n uint64) string {
	return string(binary.BigEndian.AppendUint64(nil, n))
}

func saved(commits int, pairs map[string]string) string {
	texts := []string{counted(uint64(commits))}
	for _, k := range slices.Sorted(maps.Keys(pairs)) {
		texts = append(texts, k, pairs[k])
	}
	return packed(texts...)
}

func sectorsOf(size int) int {
	return (size + 255) / 256
}

// model is what a store is held against: a map and a few numbers.
type model struct {
	q                    int
	pairs                map[string]string
	commits, epoch, room int
}

func newModel(sectors int) *model {
	q := sectors / 8
	return &model{q: q, room: 2 * q}
}

func (m *model) copy() *model {
	c := *m
	return &c
}

// fits tells whether a slot holds a state of these pairs: a head, and the sectors of the state.
func (m *model) fits(pairs map[string]string) bool {
	return 1+sectorsOf(len(saved(0, pairs))) <= m.q
}

func (m *model) checkpoint() api.Errno {
	if !m.fits(m.pairs) {
		return api.ErrFull
	}
	m.epoch++
	m.room = 2 * m.q
	return api.OK
}

// changed tells the pairs behind the changes.
func changed(pairs map[string]string, l []Change) map[string]string {
	out := map[string]string{}
	maps.Copy(out, pairs)
	for _, c := range l {
		if c.Del {
			delete(out, c.Key)
		} else {
			out[c.Key] = c.Value
		}
	}
	return out
}

// frameSectors tells how many sectors the frame of the changes takes.
func frameSectors(l []Change) int {
	size := 24
	for _, c := range l {
		size += 4 + len(recorded(c))
	}
	return sectorsOf(size)
}

func (m *model) commit(l []Change) api.Errno {
	for _, c := range l {
		if len(c.Key) < 1 || len(c.Key) > 2048 || len(c.Value) > 65536 || c.Del && len(c.Value) > 0 {
			return api.ErrArg
		}
	}
	pairs := changed(m.pairs, l)
	if !m.fits(pairs) {
		return api.ErrFull
	}
	need := frameSectors(l)
	if m.room < need {
		if e := m.checkpoint(); e != api.OK {
			return e
		}
	}
	if m.room < need {
		return api.ErrFull
	}
	m.room -= need
	m.pairs = pairs
	m.commits++
	return api.OK
}

func mustOpen(t testing.TB, d *disk.Dev) *Store {
	t.Helper()
	s, e := Open(d)
	if e != api.OK || s == nil {
		t.Fatal("Open", e)
	}
	return s
}

func mustCommit(t testing.TB, s *Store, l ...Change) {
	t.Helper()
	if e := s.Commit(l); e != api.OK {
		t.Fatal("Commit", len(l), e)
	}
}

func mustCheckpoint(t testing.TB, s *Store) {
	t.Helper()
	if e := s.Checkpoint(); e != api.OK {
		t.Fatal("Checkpoint", e)
	}
}

// holds fails the test unless the store has just these pairs.
func holds(t testing.TB, s *Store, pairs map[string]string) {
	t.Helper()
	if got := maps.Collect(s.Tree().From("")); !maps.Equal(got, pairs) || s.Tree().Len() != len(pairs) {
		t.Fatalf("%d pairs, want %d: %.300q, want %.300q", s.Tree().Len(), len(pairs), got, pairs)
	}
}

// tells fails the test unless the store tells by each of its calls what the model does.
func tells(t testing.TB, s *Store, m *model) {
	t.Helper()
	if s.Commits() != m.commits || s.Epoch() != m.epoch || s.Room() != m.room {
		t.Fatalf("commits %d, epoch %d, room %d; want %d, %d, %d", s.Commits(), s.Epoch(), s.Room(), m.commits, m.epoch, m.room)
	}
	holds(t, s, m.pairs)
}

// both makes one commit of the store and of the model, and fails the test unless they tell the same.
func both(t testing.TB, s *Store, m *model, l ...Change) api.Errno {
	t.Helper()
	e, want := s.Commit(l), m.commit(l)
	if e != want {
		t.Fatal("Commit", len(l), e, want)
	}
	tells(t, s, m)
	return e
}

// bothCheckpoint makes a checkpoint of the two, likewise.
func bothCheckpoint(t testing.TB, s *Store, m *model) api.Errno {
	t.Helper()
	e, want := s.Checkpoint(), m.checkpoint()
	if e != want {
		t.Fatal("Checkpoint", e, want)
	}
	tells(t, s, m)
	return e
}

// untouched fails the test if do writes on the device, or flushes it.
func untouched(t testing.TB, d *disk.Dev, do func()) {
	t.Helper()
	before, waits := crashtest.Content(t, d), d.Pending()
	d.Fuse(0)
	do()
	if d.Dead() || d.Pending() != waits || !slices.Equal(crashtest.Content(t, d), before) {
		t.Fatal("the device was touched")
	}
	d.Fuse(-1)
}

// laid makes a device with a state of that epoch, as it is, and frames of these records behind it.
func laid(t testing.TB, sectors int, epoch uint64, state string, frames ...[]string) *disk.Dev {
	t.Helper()
	d := crashtest.Device(t, sectors, 0)
	q := sectors / 8
	if e := snap.Save(d, 0, q, epoch, []byte(state)); e != api.OK {
		t.Fatal("Save", len(state), e)
	}
	layFrames(t, d, epoch, frames...)
	return d
}

func layFrames(t testing.TB, d *disk.Dev, epoch uint64, frames ...[]string) {
	t.Helper()
	q := d.Size() / 8
	l, _, e := wal.Open(d, 2*q, 2*q, epoch)
	if e != api.OK {
		t.Fatal(e)
	}
	for _, records := range frames {
		if e := l.Append(records); e != api.OK {
			t.Fatal("Append", len(records), e)
		}
	}
}

func put(k, v string) Change {
	return Change{Key: k, Value: v}
}

func del(k string) Change {
	return Change{Key: k, Del: true}
}

func xs(n int) string {
	return strings.Repeat("x", n)
}
