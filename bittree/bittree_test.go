package bittree_test

import (
	"math"
	"math/rand"
	"slices"
	"testing"

	"gladstone/api"
	. "gladstone/bittree"
	"gladstone/prob"
	"gladstone/ranger"
)

// slow keeps the bits of each row, and works the chances out anew.
func slow(l []int, n int) string {
	seen := map[[2]int][]bool{}
	var bits []bool
	var probs []int
	for _, x := range l {
		for k := n - 1; k >= 0; k-- {
			row, bit := [2]int{n - 1 - k, x >> (k + 1)}, x>>k&1 == 1
			seen[row] = append(seen[row], bit)
			of := prob.Of(seen[row])
			bits, probs = append(bits, bit), append(probs, of[len(of)-1])
		}
	}
	s, _ := ranger.Encode(bits, probs)
	return s
}

func TestRound(t *testing.T) {
	rnd := rand.New(rand.NewSource(1))
	for range 200 {
		n := 1 + rnd.Intn(9)
		l := make([]int, rnd.Intn(200))
		few := 1 + rnd.Intn(1<<n)
		for i := range l {
			l[i] = rnd.Intn(few)
		}
		s, e := Encode(l, n)
		if e != api.OK || s != slow(l, n) {
			t.Fatal(l, n, e)
		}
		if got, e := Decode(s, len(l), n); e != api.OK || !slices.Equal(got, l) {
			t.Fatal(l, n, got, e)
		}
	}
}

func TestEdges(t *testing.T) {
	if s, e := Encode(nil, 9); s != "" || e != api.OK {
		t.Error(s, e)
	}
	if l, e := Decode("", 3, 2); !slices.Equal(l, []int{0, 0, 0}) || e != api.OK {
		t.Error(l, e)
	}
	if l, e := Decode("abc", 0, 1); len(l) != 0 || e != api.OK {
		t.Error(l, e)
	}
	if l, e := Decode("abc", 1<<20, 1); len(l) != 1<<20 || e != api.OK {
		t.Error(len(l), e)
	}
}

func TestRefuses(t *testing.T) {
	for _, n := range []int{0, -1, 10, 64, math.MaxInt} {
		if s, e := Encode([]int{-1}, n); s != "" || e != api.ErrArg {
			t.Error(n, e)
		}
		if l, e := Decode("abc", 1, n); l != nil || e != api.ErrArg {
			t.Error(n, e)
		}
	}
	for _, many := range []int{-1, 1<<20 + 1, math.MinInt} {
		if l, e := Decode("abc", many, 3); l != nil || e != api.ErrArg {
			t.Error(many, e)
		}
	}
	for _, x := range []int{-1, 8, math.MaxInt} {
		if s, e := Encode([]int{1, x}, 3); s != "" || e != api.ErrRange {
			t.Error(x, e)
		}
	}
}
