package window_test

import (
	"math"
	"math/rand"
	"testing"

	"gladstone/api"
	"gladstone/denote"
	. "gladstone/window"
)

func TestNew(t *testing.T) {
	for _, size := range []int{0, -1, 1<<26 + 1, math.MaxInt, math.MinInt} {
		if w, e := New(size); w != nil || e != api.ErrArg {
			t.Error(size, e)
		}
	}
	w, e := New(1 << 26)
	if e != api.OK || w.Have() != 0 || w.Last(5) != "" {
		t.Error(e)
	}
}

func TestExample(t *testing.T) {
	w, _ := New(9)
	w.Put("ab")
	if s, e := w.Copy(3, 2); s != "aba" || e != api.OK || w.Last(99) != "ababa" || w.Have() != 5 {
		t.Error(s, e)
	}
}

func TestRefuses(t *testing.T) {
	w, _ := New(3)
	w.Put("abcd")
	for _, c := range []struct {
		n, d int
		e    api.Errno
	}{{-1, 9, api.ErrArg}, {259, 1, api.ErrArg}, {2, 0, api.ErrToken}, {2, -1, api.ErrToken}, {0, 4, api.ErrToken}, {2, 4, api.ErrToken}, {2, math.MaxInt, api.ErrToken}} {
		if s, e := w.Copy(c.n, c.d); s != "" || e != c.e {
			t.Error(c, s, e)
		}
	}
	if w.Last(99) != "bcd" || w.Have() != 3 || w.Last(0) != "" || w.Last(-4) != "" || w.Last(2) != "cd" {
		t.Error("something has changed")
	}
	if s, e := w.Copy(0, 3); s != "" || e != api.OK {
		t.Error("no bytes", e)
	}
}

func TestNil(t *testing.T) {
	var w *Window
	w.Put("a")
	if s, e := w.Copy(0, 1); s != "" || e != api.ErrArg || w.Have() != 0 || w.Last(3) != "" {
		t.Error("nil")
	}
}

func TestAsDenote(t *testing.T) {
	rnd := rand.New(rand.NewSource(1))
	for _, size := range []int{1, 2, 3, 7, 100, 1000} {
		w, _ := New(size)
		var all []byte
		for range 2000 {
			if rnd.Intn(2) == 0 {
				b := make([]byte, rnd.Intn(5)+rnd.Intn(2)*rnd.Intn(2*size))
				rnd.Read(b)
				w.Put(string(b))
				all = append(all, b...)
			} else {
				n, d := rnd.Intn(259), rnd.Intn(size+3)
				want, f := denote.Copy(all, n, d, size)
				s, e := w.Copy(n, d)
				if e != f || e == api.OK && s != string(want[len(all):]) {
					t.Fatal(size, n, d, e, f)
				}
				if e == api.OK {
					all = want
				}
			}
			held := all[len(all)-min(len(all), size):]
			if w.Have() != len(held) || w.Last(size) != string(held) || w.Last(3) != string(held[len(held)-min(3, len(held)):]) {
				t.Fatal(size, "what is held")
			}
		}
	}
}
