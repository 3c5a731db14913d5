package tans_test

import (
	"math"
	"math/rand"
	"slices"
	"testing"

	"gladstone/api"
	"gladstone/bitw"
	. "gladstone/tans"
)

func TestNorm(t *testing.T) {
	ones := slices.Repeat([]int{1}, 257)
	for _, c := range []struct {
		freq []int
		n    int
		want []int
		e    api.Errno
	}{
		{[]int{3, 1}, 5, []int{24, 8}, api.OK},
		{[]int{0, 7, 0}, 5, []int{0, 32, 0}, api.OK},
		{[]int{1, 1, 1}, 5, []int{12, 10, 10}, api.OK}, // two more for the first one
		{[]int{1000, 1, 1, 1, 1000}, 5, []int{14, 1, 1, 1, 15}, api.OK},
		{ones[:32], 5, ones[:32], api.OK},
		{append([]int{api.MaxFreq - 31}, ones[:31]...), 5, ones[:32], api.OK},
		{ones, 4, nil, api.ErrArg}, {ones, 13, nil, api.ErrArg}, {ones, math.MinInt, nil, api.ErrArg},
		{append(ones[:256:256], -1), 5, nil, api.ErrLimit},
		{[]int{1, -1}, 5, nil, api.ErrRange}, {[]int{api.MaxFreq, 1}, 5, nil, api.ErrRange}, {[]int{math.MaxInt, math.MaxInt}, 5, nil, api.ErrRange},
		{[]int{0, 0}, 5, nil, api.ErrNone}, {nil, 5, nil, api.ErrNone},
		{ones[:33], 5, nil, api.ErrKraft}, {append(ones[:33:33], -1), 5, nil, api.ErrRange},
	} {
		if got, e := Norm(c.freq, c.n); !slices.Equal(got, c.want) || e != c.e {
			t.Error(len(c.freq), c.n, got, e)
		}
	}
}

func TestSpread(t *testing.T) {
	got, e := Spread([]int{24, 0, 8}, 5)
	want := make([]int, 32)
	for k := range 32 {
		if k >= 24 {
			want[k*23%32] = 2
		}
	}
	if !slices.Equal(got, want) || e != api.OK {
		t.Error(got, e)
	}
	for k, c := range []struct {
		norm []int
		n    int
		e    api.Errno
	}{{[]int{32}, 4, api.ErrArg}, {nil, 13, api.ErrArg}, {[]int{31}, 5, api.ErrForm}, {[]int{33}, 5, api.ErrForm}, {[]int{33, -1}, 5, api.ErrForm}, {[]int{-1, 33}, 5, api.ErrForm}, {nil, 5, api.ErrForm},
		{append([]int{32}, make([]int, 256)...), 5, api.ErrForm}, {[]int{math.MaxInt, math.MaxInt, 34}, 5, api.ErrForm}} {
		if got, e := Spread(c.norm, c.n); got != nil || e != c.e {
			t.Error(k, e)
		}
		if got, e := Decode("abc", -1, c.norm, c.n); got != nil || e != c.e {
			t.Error(k, e)
		}
		if got, e := Encode([]int{-1}, c.norm, c.n); got != "" || e != c.e {
			t.Error(k, e)
		}
	}
}

func TestRound(t *testing.T) {
	rnd := rand.New(rand.NewSource(1))
	for range 300 {
		n := 5 + rnd.Intn(8)
		freq := make([]int, 1+rnd.Intn(min(256, 1<<n)))
		for i := range freq {
			freq[i] = rnd.Intn(1 << rnd.Intn(20))
		}
		freq[0]++
		norm, e := Norm(freq, n)
		if sum := 0; e != api.OK {
			t.Fatal(e)
		} else {
			for i, x := range norm {
				sum += x
				if (x == 0) != (freq[i] == 0) || x < 0 {
					t.Fatal("a norm")
				}
			}
			if sum != 1<<n {
				t.Fatal("the sum")
			}
		}
		syms := make([]int, rnd.Intn(300))
		for i := range syms {
			for norm[syms[i]] == 0 || rnd.Intn(3) > 0 {
				syms[i] = rnd.Intn(len(norm))
			}
		}
		s, e := Encode(syms, norm, n)
		if e != api.OK {
			t.Fatal(e)
		}
		if got, e := Decode(s, len(syms), norm, n); !slices.Equal(got, syms) || e != api.OK {
			t.Fatal(e)
		}
		if got, e := Decode(s+"\x00", len(syms), norm, n); got != nil || e != api.ErrForm {
			t.Fatal("a byte more", e)
		}
		if got, e := Decode(s[:len(s)-1], len(syms), norm, n); got != nil || e != api.ErrShort {
			t.Fatal("a byte less", e)
		}
	}
}

func TestByHand(t *testing.T) {
	// One symbol has all states: no bits, but those of the state.
	if s, e := Encode([]int{0, 0, 0}, []int{32}, 5); s != "\x00" || e != api.OK {
		t.Errorf("%q, %d", s, e)
	}
	for x := range 32 {
		l, e := Decode(string([]byte{byte(x)}), 3, []int{32}, 5)
		if x == 0 && (e != api.OK || len(l) != 3) || x > 0 && e != api.ErrForm {
			t.Error(x, l, e)
		}
	}
	// Two symbols of half of the states each: the state 0 is of 0, and its number 16 is moved by a bit.
	w := bitw.New()
	w.Put(0, 5)
	w.Put(0, 1)
	if l, e := Decode(w.Bytes(), 1, []int{16, 16}, 5); !slices.Equal(l, []int{0}) || e != api.OK {
		t.Error(l, e)
	}
	w = bitw.New()
	w.Put(0, 5)
	w.Put(1, 1)
	if l, e := Decode(w.Bytes(), 1, []int{16, 16}, 5); l != nil || e != api.ErrForm {
		t.Error("not at 0", l, e)
	}
	w = bitw.New()
	w.Put(0, 6)
	w.Put(2, 2)
	if l, e := Decode(w.Bytes(), 1, []int{16, 16}, 5); l != nil || e != api.ErrForm {
		t.Error("a bit 1 is left", l, e)
	}
	if l, e := Decode("\x00", 0, []int{16, 16}, 5); len(l) != 0 || e != api.OK {
		t.Error("none", l, e)
	}
}

func TestErrors(t *testing.T) {
	half := []int{16, 0, 16}
	for _, many := range []int{-1, 1<<20 + 1, math.MinInt} {
		if l, e := Decode("", many, half, 5); l != nil || e != api.ErrArg {
			t.Error(many, e)
		}
	}
	if l, e := Decode("", 0, half, 5); l != nil || e != api.ErrShort {
		t.Error(l, e)
	}
	for _, s := range []int{1, 3, -1, math.MaxInt} {
		if x, e := Encode([]int{0, s}, half, 5); x != "" || e != api.ErrNone {
			t.Error(s, e)
		}
	}
	if x, e := Encode(make([]int, 1<<20+1), half, 5); x != "" || e != api.ErrLimit {
		t.Error(e)
	}
	x, e := Encode(make([]int, 1<<20), half, 5)
	if len(x) != 1<<17+1 || e != api.OK {
		t.Error(len(x), e)
	}
	if l, e := Decode(x, 1<<20, half, 5); len(l) != 1<<20 || e != api.OK {
		t.Error(len(l), e)
	}
	if x, e := Encode(nil, half, 5); x != "\x00" || e != api.OK {
		t.Errorf("%q, %d", x, e)
	}
}
