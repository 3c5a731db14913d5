package slow_test

import (
	"math/rand"
	"slices"
	"testing"

	"gladstone/api"
	"gladstone/pmerge"
	. "gladstone/slow"
)

func bitsOf(s string) []bool {
	var out []bool
	for _, c := range s {
		out = append(out, c == '1')
	}
	return out
}

func TestDecode(t *testing.T) {
	for _, c := range []struct {
		l      []int
		bits   string
		sym, n int
		e      api.Errno
	}{
		{[]int{2, 1, 2}, "10", 0, 2, api.OK},
		{[]int{2, 1, 2}, "0", 1, 1, api.OK},
		{[]int{2, 1, 2}, "1111", 2, 2, api.OK},
		{[]int{2, 1, 2}, "", 0, 0, api.ErrShort},
		{[]int{2, 1, 2}, "1", 0, 0, api.ErrShort},
		{[]int{0, 1}, "01", 1, 1, api.OK},
		{[]int{0, 1}, "1", 0, 0, api.ErrForm},
		{[]int{0, 1}, "", 0, 0, api.ErrShort},
		{[]int{1, 2}, "1", 0, 0, api.ErrKraft},
		{nil, "1", 0, 0, api.ErrNone},
		{make([]int, 1025), "1", 0, 0, api.ErrLimit},
		{[]int{17}, "1", 0, 0, api.ErrRange},
	} {
		if sym, n, e := Decode(c.l, bitsOf(c.bits)); sym != c.sym || n != c.n || e != c.e {
			t.Errorf("Decode(%d lengths, %s): %d, %d, %d", len(c.l), c.bits, sym, n, e)
		}
	}
}

func TestEncode(t *testing.T) {
	if b, e := Encode([]int{2, 1, 2}, []int{0, 1, 2}); e != api.OK || !slices.Equal(b, bitsOf("10011")) {
		t.Error(b, e)
	}
	if b, e := Encode([]int{0, 1}, []int{1, 1}); e != api.OK || !slices.Equal(b, bitsOf("00")) {
		t.Error(b, e)
	}
	if b, e := Encode([]int{1, 1}, nil); e != api.OK || len(b) != 0 {
		t.Error(b, e)
	}
	for _, s := range []int{-1, 2, 1 << 40, 3} {
		if b, e := Encode([]int{1, 1, 0}, []int{0, s}); e != api.ErrNone || b != nil {
			t.Error(s, b, e)
		}
	}
	if b, e := Encode([]int{1, 2}, []int{9}); e != api.ErrKraft || b != nil {
		t.Error(b, e)
	}
}

func TestRound(t *testing.T) {
	rnd := rand.New(rand.NewSource(4))
	for range 40 {
		freq := make([]int, 1+rnd.Intn(60))
		for i := range freq {
			freq[i] = rnd.Intn(1 << rnd.Intn(16))
		}
		freq[0] = 3
		l, _ := pmerge.Lengths(freq, 16)
		var syms []int
		for s := range l {
			if l[s] > 0 {
				syms = append(syms, s)
			}
		}
		rnd.Shuffle(len(syms), func(i, k int) { syms[i], syms[k] = syms[k], syms[i] })
		bits, e := Encode(l, syms)
		if e != api.OK {
			t.Fatal(e)
		}
		for _, want := range syms {
			sym, n, e := Decode(l, bits)
			if sym != want || n != l[want] || e != api.OK {
				t.Fatal(sym, want, e)
			}
			for k := range n {
				if _, _, e := Decode(l, bits[:k]); e != api.ErrShort {
					t.Fatal("a part of a code is not short")
				}
			}
			bits = bits[n:]
		}
	}
}
