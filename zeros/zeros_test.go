package zeros_test

import (
	"math"
	"math/rand"
	"slices"
	"testing"

	"gladstone/api"
	. "gladstone/zeros"
)

func TestPack(t *testing.T) {
	for n, want := range [][]int{nil, {0}, {1}, {0, 0}, {1, 0}, {0, 1}, {1, 1}, {0, 0, 0}, {1, 0, 0}} {
		if got, e := Pack(make([]int, n)); !slices.Equal(got, want) || e != api.OK {
			t.Error(n, got, e)
		}
		if got, e := Unpack(want); !slices.Equal(got, make([]int, n)) || e != api.OK {
			t.Error(n, got, e)
		}
	}
	if got, e := Pack([]int{5, 0, 0, 0}); !slices.Equal(got, []int{6, 0, 0}) || e != api.OK {
		t.Error(got, e)
	}
	if got, e := Unpack([]int{2, 1<<20 + 1, 0, 3}); !slices.Equal(got, []int{1, 1 << 20, 0, 2}) || e != api.OK {
		t.Error(got, e)
	}
	if got, e := Pack([]int{1, 1 << 20, 0, 2}); !slices.Equal(got, []int{2, 1<<20 + 1, 0, 3}) || e != api.OK {
		t.Error(got, e)
	}
}

func TestRound(t *testing.T) {
	rnd := rand.New(rand.NewSource(1))
	for range 300 {
		var l []int
		for range rnd.Intn(30) {
			if rnd.Intn(2) == 0 {
				l = append(l, make([]int, rnd.Intn(1<<rnd.Intn(12)))...)
			} else {
				l = append(l, rnd.Intn(1<<rnd.Intn(21)))
			}
		}
		p, e := Pack(l)
		if e != api.OK {
			t.Fatal(e)
		}
		if got, e := Unpack(p); !slices.Equal(got, l) || e != api.OK {
			t.Fatal(e)
		}
		for i := range p {
			p[i] = rnd.Intn(4)
		}
		p = p[:min(len(p), 15)]
		u, e := Unpack(p)
		if again, f := Pack(u); e != api.OK || f != api.OK || !slices.Equal(again, p) {
			t.Fatal(p, u, again)
		}
	}
}

func TestRefuses(t *testing.T) {
	for _, x := range []int{-1, 1<<20 + 1, math.MaxInt, math.MinInt} {
		if l, e := Pack([]int{0, x}); l != nil || e != api.ErrRange {
			t.Error("Pack", x, e)
		}
		if x == 1<<20+1 {
			x++
		}
		if l, e := Unpack([]int{0, x}); l != nil || e != api.ErrRange {
			t.Error("Unpack", x, e)
		}
	}
	full, _ := Pack(make([]int, 1<<20))
	if l, e := Unpack(full); len(l) != 1<<20 || e != api.OK {
		t.Error(len(l), e)
	}
	if l, e := Unpack(append(full, 2)); l != nil || e != api.ErrLimit {
		t.Error(len(l), e)
	}
	more, _ := Pack(make([]int, 1<<20+1))
	if l, e := Unpack(more); l != nil || e != api.ErrLimit {
		t.Error(len(l), e)
	}
	if l, e := Unpack(slices.Repeat([]int{1}, 1000)); l != nil || e != api.ErrLimit {
		t.Error(len(l), e)
	}
	if l, e := Unpack(append(slices.Repeat([]int{1}, 1000), -1)); l != nil || e != api.ErrRange {
		t.Error("the range is asked first", e)
	}
	if l, e := Pack(make([]int, 1<<20+1)); len(l) != 20 || e != api.OK {
		t.Error("more than Unpack takes", len(l), e)
	}
}
