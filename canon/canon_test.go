package canon_test

import (
	"math"
	"math/rand"
	"slices"
	"testing"

	"gladstone/api"
	. "gladstone/canon"
	"gladstone/pmerge"
)

func TestCodes(t *testing.T) {
	for _, c := range []struct{ l, codes, order []int }{
		{[]int{2, 1, 2}, []int{2, 0, 3}, []int{1, 0, 2}},
		{[]int{0, 1, 0}, []int{0, 0, 0}, []int{1}},
		{[]int{3, 3, 3, 3, 3, 2, 4, 4}, []int{2, 3, 4, 5, 6, 0, 14, 15}, []int{5, 0, 1, 2, 3, 4, 6, 7}},
		{[]int{1, 0, 4, 4, 3, 2}, []int{0, 0, 14, 15, 6, 2}, []int{0, 5, 4, 2, 3}},
	} {
		codes, e := Codes(c.l)
		if e != api.OK || !slices.Equal(codes, c.codes) {
			t.Errorf("Codes(%v): %v, %d", c.l, codes, e)
		}
		if o := Order(c.l); !slices.Equal(o, c.order) {
			t.Errorf("Order(%v): %v", c.l, o)
		}
	}
}

func TestRefuses(t *testing.T) {
	for _, c := range []struct {
		l []int
		e api.Errno
	}{{nil, api.ErrNone}, {make([]int, 1025), api.ErrLimit}, {[]int{1, 17}, api.ErrRange}, {[]int{-1}, api.ErrRange}, {[]int{1, 2}, api.ErrKraft}, {[]int{2}, api.ErrKraft}} {
		if codes, e := Codes(c.l); codes != nil || e != c.e || len(Order(c.l)) != 0 {
			t.Errorf("Codes of %d lengths: %d, not %d", len(c.l), e, c.e)
		}
	}
}

func TestLongest(t *testing.T) {
	l := []int{1, 2, 3, 4, 5, 6, 7, 8, 9, 10, 11, 12, 13, 14, 15, 16, 16}
	codes, e := Codes(l)
	if e != api.OK || codes[16] != 65535 || codes[15] != 65534 || codes[14] != 32766 {
		t.Error(codes, e)
	}
}

func TestNoneBeginsAnother(t *testing.T) {
	rnd := rand.New(rand.NewSource(3))
	for range 60 {
		freq := make([]int, 2+rnd.Intn(100))
		for i := range freq {
			freq[i] = rnd.Intn(1 << rnd.Intn(20))
		}
		freq[1], freq[0] = 5, 5
		l, _ := pmerge.Lengths(freq, 16)
		codes, e := Codes(l)
		if e != api.OK {
			t.Fatal(e)
		}
		order := Order(l)
		for k, s := range order {
			if k == 0 && codes[s] != 0 {
				t.Fatal("the first code is not 0")
			}
			if k > 0 {
				p := order[k-1]
				if l[p] > l[s] || l[p] == l[s] && p > s || codes[s] != (codes[p]+1)<<(l[s]-l[p]) {
					t.Fatal("a code is not the one ahead, and 1")
				}
			}
			for _, u := range order[k+1:] {
				if codes[u]>>(l[u]-l[s]) == codes[s] {
					t.Fatal("a code begins another one")
				}
			}
		}
	}
}

func TestTurned(t *testing.T) {
	for _, c := range []struct{ c, n, want int }{{1, 1, 1}, {1, 3, 4}, {6, 3, 3}, {0xff, 4, 15}, {5, 0, 0}, {5, -1, 0}, {5, 33, 0},
		{1, 32, 1 << 31}, {-1, 32, 1<<32 - 1}, {math.MinInt, 32, 0}, {8, 3, 0}, {5, math.MaxInt, 0}} {
		if got := Turned(c.c, c.n); got != c.want {
			t.Errorf("Turned(%d, %d): %d", c.c, c.n, got)
		}
	}
}
