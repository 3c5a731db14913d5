package bitw_test

import (
	"testing"

	"gladstone/api"
	. "gladstone/bitw"
)

func TestPut(t *testing.T) {
	w := New()
	if w.Bytes() != "" || w.Len() != 0 || w.Align() != 0 {
		t.Fatal("a new writer has bits")
	}
	if w.Put(1, 1) != api.OK || w.Put(2, 2) != api.OK {
		t.Fatal("Put refuses what may be")
	}
	if w.Bytes() != "\x05" || w.Len() != 3 {
		t.Fatalf("%q, %d", w.Bytes(), w.Len())
	}
	if w.Put(0, 0) != api.OK || w.Len() != 3 {
		t.Fatal("no bits are some")
	}
	if w.Align() != 5 || w.Len() != 8 || w.Align() != 0 || w.Bytes() != "\x05" {
		t.Fatal("Align")
	}
}

func TestPutRefuses(t *testing.T) {
	w := New()
	w.Put(1, 1)
	for _, c := range []struct {
		x uint64
		n int
	}{{0, -1}, {0, 57}, {1, 0}, {2, 1}, {256, 8}, {1 << 56, 56}, {^uint64(0), 56}, {0, 64}, {0, 1 << 40}} {
		if e := w.Put(c.x, c.n); e != api.ErrRange {
			t.Errorf("Put(%d, %d): %d", c.x, c.n, e)
		}
	}
	if w.Len() != 1 || w.Bytes() != "\x01" {
		t.Error("what was refused has changed something")
	}
}

func TestWidest(t *testing.T) {
	for ahead := range 8 {
		w := New()
		w.Put(0, ahead)
		if w.Put(1<<56-1, 56) != api.OK || w.Len() != 56+ahead {
			t.Fatalf("56 bits behind %d", ahead)
		}
		s, ones := w.Bytes(), 0
		for i := range 8 * len(s) {
			bit := s[i/8] >> (i % 8) & 1
			if (bit == 1) != (i >= ahead && i < ahead+56) {
				t.Fatalf("bit %d behind %d", i, ahead)
			}
			ones += int(bit)
		}
		if ones != 56 {
			t.Fatal("bits are lost")
		}
	}
}

func TestBitsOneByOne(t *testing.T) {
	all, one := New(), New()
	x := uint64(12345)
	for n := range 57 {
		x = x*6364136223846793005 + 1442695040888963407
		v := x >> 8 & (1<<n - 1)
		all.Put(v, n)
		for k := range n {
			one.Put(v>>k&1, 1)
		}
	}
	if all.Bytes() != one.Bytes() || all.Len() != one.Len() {
		t.Error("bits at once are others than one by one")
	}
	before := all.Bytes()
	all.Put(255, 8)
	if before == all.Bytes() || len(before) != (56*57/2+7)/8 {
		t.Error("Bytes is not of its time")
	}
}

func TestNil(t *testing.T) {
	var w *Writer
	if w.Put(0, 0) != api.ErrArg || w.Put(0, 99) != api.ErrArg || w.Align() != 0 || w.Len() != 0 || w.Bytes() != "" {
		t.Error("nil")
	}
}
