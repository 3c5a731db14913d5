package ilog_test

import (
	"math"
	"math/big"
	"testing"

	"gladstone/api"
	. "gladstone/ilog"
)

// exact is the greatest number of sixteenths whose power of two is not above n.
func exact(n int) int {
	power := new(big.Int).Exp(big.NewInt(int64(n)), big.NewInt(16), nil)
	return power.BitLen() - 1
}

func TestLog(t *testing.T) {
	for n, want := range map[int]int{1: 0, 2: 16, 3: 25, 8: 48, 1 << 31: 496, 1<<32 - 1: 511} {
		if got, e := Log(n); got != want || e != api.OK {
			t.Error(n, got, e)
		}
	}
	for n := 1; n < 1<<32; n += n/300 + 1 {
		if got, _ := Log(n); got != exact(n) {
			t.Fatal(n, got, exact(n))
		}
	}
	for _, n := range []int{0, -1, 1 << 32, math.MaxInt, math.MinInt} {
		if got, e := Log(n); got != 0 || e != api.ErrRange {
			t.Error(n, got, e)
		}
	}
}

func TestEntropy(t *testing.T) {
	for _, c := range []struct {
		freq []int
		want int
		e    api.Errno
	}{
		{nil, 0, api.OK}, {[]int{0, 0}, 0, api.OK}, {[]int{7}, 0, api.OK}, {[]int{4, 0, 4}, 128, api.OK}, {[]int{1, 3}, 32 + 3*(32-25), api.OK},
		{[]int{1 << 31, 1<<31 - 1}, 1<<31*(511-496) + (1<<31-1)*(511-495), api.OK},
		{[]int{1 << 31, 1 << 31}, 0, api.ErrRange}, {[]int{1, -1}, 0, api.ErrRange}, {[]int{math.MaxInt, math.MaxInt}, 0, api.ErrRange}, {[]int{1 << 32}, 0, api.ErrRange},
		{[]int{1<<32 - 1}, 0, api.OK},
	} {
		if got, e := Entropy(c.freq); got != c.want || e != c.e {
			t.Error(c.freq, got, e)
		}
	}
}
