package bitr_test

import (
	"testing"

	"gladstone/api"
	. "gladstone/bitr"
	"gladstone/bitw"
)

func TestTake(t *testing.T) {
	r := New("\x05")
	if r.At() != 0 || r.Left() != 8 {
		t.Fatal("at the beginning")
	}
	if x, e := r.Take(1); x != 1 || e != api.OK {
		t.Fatal(x, e)
	}
	if x, e := r.Take(2); x != 2 || e != api.OK {
		t.Fatal(x, e)
	}
	if r.At() != 3 || r.Left() != 5 {
		t.Fatal("At, Left")
	}
	if x, e := r.Take(6); x != 0 || e != api.ErrShort || r.At() != 3 {
		t.Fatal("more than are left were taken")
	}
	if x, e := r.Take(5); x != 0 || e != api.OK || r.Left() != 0 {
		t.Fatal("the last ones")
	}
	if x, e := r.Take(0); x != 0 || e != api.OK {
		t.Fatal("none of none")
	}
}

func TestWrongNumbers(t *testing.T) {
	r := New("\xff")
	for _, n := range []int{-1, 57, 64, 1 << 40, -1 << 40} {
		if x, e := r.Take(n); x != 0 || e != api.ErrRange {
			t.Errorf("Take(%d): %d, %d", n, x, e)
		}
		if e := r.Skip(n); e != api.ErrRange {
			t.Errorf("Skip(%d): %d", n, e)
		}
		if r.Peek(n) != 0 {
			t.Errorf("Peek(%d)", n)
		}
	}
	if e := r.Skip(9); e != api.ErrShort || r.Left() != 8 {
		t.Error("Skip past the end")
	}
}

func TestPeek(t *testing.T) {
	r := New("\xff\x01")
	if r.Peek(56) != 0x1ff || r.Peek(0) != 0 || r.Peek(3) != 7 || r.At() != 0 {
		t.Error("Peek")
	}
	if r.Skip(4) != api.OK || r.Peek(56) != 0x1f || r.At() != 4 || r.Left() != 12 {
		t.Error("Peek behind Skip")
	}
	wide := New("\xff\xff\xff\xff\xff\xff\xff\xff")
	wide.Skip(7)
	if wide.Peek(56) != 1<<56-1 {
		t.Error("the widest")
	}
}

func TestAlign(t *testing.T) {
	r := New("\xff\x02")
	if r.Align() != 0 {
		t.Error("nothing to leave out")
	}
	r.Skip(3)
	if r.Align() != 5 || r.At() != 8 || r.Left() != 8 || r.Peek(8) != 2 {
		t.Error("Align")
	}
	r.Skip(1)
	if r.Align() != 7 || r.At() != 16 || r.Left() != 0 || r.Align() != 0 {
		t.Error("Align at the end")
	}
}

func TestRound(t *testing.T) {
	w := bitw.New()
	x := uint64(99)
	var words []uint64
	for k := range 500 {
		x = x*6364136223846793005 + 1442695040888963407
		n := k % 57
		words = append(words, x>>7&(1<<n-1))
		w.Put(words[k], n)
	}
	r := New(w.Bytes())
	for k, want := range words {
		peek := r.Peek(k % 57)
		if got, e := r.Take(k % 57); got != want || peek != want || e != api.OK {
			t.Fatalf("word %d", k)
		}
	}
	if r.At() != w.Len() || r.Left() >= 8 {
		t.Error("the end")
	}
}

func TestNil(t *testing.T) {
	var r *Reader
	if x, e := r.Take(1); x != 0 || e != api.ErrArg {
		t.Error("Take")
	}
	if r.Skip(1) != api.ErrArg || r.Peek(1) != 0 || r.Align() != 0 || r.At() != 0 || r.Left() != 0 {
		t.Error("nil")
	}
	empty := New("")
	if _, e := empty.Take(1); e != api.ErrShort || empty.Left() != 0 || empty.Align() != 0 {
		t.Error("of nothing")
	}
}
