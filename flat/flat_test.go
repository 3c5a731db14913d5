package flat_test

import (
	"math/rand"
	"testing"

	"gladstone/api"
	"gladstone/bitr"
	. "gladstone/flat"
	"gladstone/pmerge"
	"gladstone/slow"
)

func TestNew(t *testing.T) {
	for _, c := range []struct {
		l     []int
		limit int
		e     api.Errno
	}{{[]int{2, 1, 2}, 2, api.OK}, {[]int{2, 1, 2}, 15, api.OK}, {[]int{2, 1, 2}, 0, api.ErrArg}, {[]int{2, 1, 2}, 16, api.ErrArg},
		{make([]int, 1025), 16, api.ErrArg}, {make([]int, 1025), 9, api.ErrLimit}, {[]int{2, 1, 2}, 1, api.ErrRange}, {nil, 3, api.ErrNone}, {[]int{1, 2}, 3, api.ErrKraft}} {
		tab, e := New(c.l, c.limit)
		if e != c.e || (tab == nil) != (e != api.OK) {
			t.Errorf("New(%d lengths, %d): %d", len(c.l), c.limit, e)
		}
		if e == api.OK && tab.Size() != 1<<c.limit {
			t.Error("Size", tab.Size())
		}
	}
}

func TestNext(t *testing.T) {
	tab, _ := New([]int{2, 1, 2}, 2)
	r := bitr.New("\x01")
	if s, e := tab.Next(r); s != 0 || e != api.OK || r.At() != 2 {
		t.Error(s, e)
	}
	sole, _ := New([]int{0, 1}, 4)
	r = bitr.New("\x80")
	for range 7 {
		if s, e := sole.Next(r); s != 1 || e != api.OK {
			t.Error(s, e)
		}
	}
	if s, e := sole.Next(r); s != 0 || e != api.ErrForm || r.At() != 7 {
		t.Error("no code", s, e)
	}
	r.Skip(1)
	if s, e := sole.Next(r); s != 0 || e != api.ErrShort {
		t.Error("no bits", s, e)
	}
	r = bitr.New("\xff")
	r.Skip(7)
	if s, e := tab.Next(r); s != 0 || e != api.ErrShort || r.Left() != 1 {
		t.Error("half a code", s, e)
	}
}

func TestNil(t *testing.T) {
	var none *Table
	tab, _ := New([]int{1, 1}, 1)
	if s, e := none.Next(bitr.New("a")); s != 0 || e != api.ErrArg || none.Size() != 0 {
		t.Error("nil table")
	}
	if s, e := tab.Next(nil); s != 0 || e != api.ErrArg {
		t.Error("nil reader")
	}
}

func TestAsSlow(t *testing.T) {
	rnd := rand.New(rand.NewSource(5))
	for range 200 {
		freq := make([]int, 1+rnd.Intn(80))
		for i := range freq {
			freq[i] = rnd.Intn(1 << rnd.Intn(16))
		}
		freq[0] = 1
		limit := 7 + rnd.Intn(9)
		l, _ := pmerge.Lengths(freq, limit)
		tab, e := New(l, limit)
		if e != api.OK {
			t.Fatal(e)
		}
		raw := make([]byte, rnd.Intn(12))
		rnd.Read(raw)
		bits := make([]bool, 8*len(raw))
		for i := range bits {
			bits[i] = raw[i/8]>>(i%8)&1 == 1
		}
		r := bitr.New(string(raw))
		for {
			at := r.At()
			sym, n, want := slow.Decode(l, bits[at:])
			got, e := tab.Next(r)
			if got != sym || e != want || r.At() != at+n {
				t.Fatal(got, sym, e, want)
			}
			if e != api.OK {
				break
			}
		}
	}
}
