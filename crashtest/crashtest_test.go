package crashtest

import (
	"bytes"
	"slices"
	"testing"

	"stowage/api"
	"stowage/disk"
)

// watched is a test of which it is seen whether it fails.
type watched struct{}

type failure struct{}

func (watched) Helper() {}

func (watched) Fatal(...any) {
	panic(failure{})
}

// fails tells whether do fails the test that it is handed.
func fails(do func(t T)) (failed bool) {
	defer func() {
		if r := recover(); r != nil {
			_, failed = r.(failure)
			if !failed {
				panic(r)
			}
		}
	}()
	do(watched{})
	return false
}

func full(c byte) []byte {
	return bytes.Repeat([]byte{c}, 256)
}

// does makes a function that makes these calls of the device, up to the first that goes wrong.
func does(calls ...func(d *disk.Dev) api.Errno) func(*disk.Dev) api.Errno {
	return func(d *disk.Dev) api.Errno {
		for _, call := range calls {
			if e := call(d); e != api.OK {
				return e
			}
		}
		return api.OK
	}
}

func writes(i int, c byte) func(d *disk.Dev) api.Errno {
	return func(d *disk.Dev) api.Errno { return d.Write(i, full(c)) }
}

func TestCalls(t *testing.T) {
	flush := (*disk.Dev).Flush
	a, b, c := writes(1, 'a'), writes(2, 'b'), writes(3, 'c')
	forgets := func(d *disk.Dev) api.Errno {
		a(d)
		b(d)
		flush(d)
		c(d)
		flush(d)
		return api.OK
	}
	for _, x := range []struct {
		name string
		do   func(*disk.Dev) api.Errno
		want bool
	}{
		{"as they are", does(a, b, flush, c, flush), false},
		{"another order", does(b, a, flush, c, flush), true},
		{"another order of batches", does(c, flush, a, b, flush), true},
		{"no flush between", does(a, b, c, flush), true},
		{"no flush at the end", does(a, b, flush, c), true},
		{"a flush more", does(a, flush, b, flush, c, flush), true},
		{"a flush more at the end", does(a, b, flush, c, flush, flush), true},
		{"a flush more ahead", does(flush, a, b, flush, c, flush), true},
		{"a write less", does(a, flush, c, flush), true},
		{"a write more", does(a, b, flush, c, writes(4, 'd'), flush), true},
		{"a write more behind", does(a, b, flush, c, flush, writes(4, 'd')), true},
		{"a write twice", does(a, b, b, flush, c, flush), true},
		{"other bytes", does(a, writes(2, 'x'), flush, c, flush), true},
		{"another sector", does(a, writes(0, 'b'), flush, c, flush), true},
		{"nothing", does(), true},
		{"an error that is forgotten", forgets, true},
	} {
		got := fails(func(w T) {
			Calls(w, Device(w, 6, 0), x.do, Writes(1, slices.Concat(full('a'), full('b'))), Writes(3, full('c')))
		})
		if got != x.want {
			t.Error(x.name, got)
		}
	}
	if fails(func(w T) { Calls(w, Device(w, 6, 0), does(flush, a, flush), nil, Writes(1, full('a'))) }) {
		t.Error("a batch of no writes")
	}
}

func TestWaiting(t *testing.T) {
	d := Device(t, 4, 0xEE)
	if got := Waiting(t, d); len(got) != 0 {
		t.Error(got)
	}
	d.Write(2, full('a'))
	d.Write(1, full('b'))
	d.Write(2, full('c'))
	want := []Write{{2, string(full('a'))}, {1, string(full('b'))}, {2, string(full('c'))}}
	if got := Waiting(t, d); !slices.Equal(got, want) {
		t.Error(got)
	}
	d.Write(0, full(0xEE))
	if !fails(func(w T) { Waiting(w, d) }) {
		t.Error("a write that changes nothing")
	}
}

func TestLayAndContent(t *testing.T) {
	d := Device(t, 3, 0xEE)
	Lay(t, d, 1, slices.Concat(full('a'), full('b')))
	if d.Pending() != 0 || !bytes.Equal(Content(t, d), slices.Concat(full(0xEE), full('a'), full('b'))) {
		t.Error(d.Pending())
	}
	if !fails(func(w T) { Lay(w, d, 2, make([]byte, 512)) }) || !fails(func(w T) { Device(w, 0, 0) }) {
		t.Error("sectors that are not there")
	}
	d.Fuse(0)
	d.Flush()
	if !fails(func(w T) { Content(w, d) }) || !fails(func(w T) { Lay(w, d, 0, nil) }) {
		t.Error("a dead device")
	}
}

func TestKeeps(t *testing.T) {
	for n := range 6 {
		l := Keeps(n)
		if len(l) != 1<<n {
			t.Fatal(n, len(l))
		}
		for number, keep := range l {
			for i, k := range keep {
				if len(keep) != n || k != (number>>(n-1-i)&1 == 1) {
					t.Fatal(n, number, keep)
				}
			}
		}
	}
}
