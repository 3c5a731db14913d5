package weight_test

import (
	"math"
	"slices"
	"testing"

	"gladstone/api"
	. "gladstone/weight"
)

func TestWhole(t *testing.T) {
	for _, c := range []struct {
		x float64
		n int
		e api.Errno
	}{{0, 0, api.OK}, {math.Copysign(0, -1), 0, api.OK}, {2.9999, 2, api.OK}, {1e-300, 0, api.OK}, {1<<32 - 0.5, 1<<32 - 1, api.OK},
		{1 << 32, 0, api.ErrRange}, {-1e-300, 0, api.ErrRange}, {-5, 0, api.ErrRange}, {math.MaxFloat64, 0, api.ErrRange},
		{math.Inf(1), 0, api.ErrInf}, {math.Inf(-1), 0, api.ErrInf}, {math.NaN(), 0, api.ErrNaN}} {
		if n, e := Whole(c.x); n != c.n || e != c.e {
			t.Errorf("Whole(%v): %d, %d", c.x, n, e)
		}
	}
}

func TestFreqs(t *testing.T) {
	if l, e := Freqs([]float64{1.5, 0, 7}); e != api.OK || !slices.Equal(l, []int{1, 0, 7}) {
		t.Error(l, e)
	}
	if l, e := Freqs(nil); e != api.OK || len(l) != 0 {
		t.Error(l, e)
	}
	if l, e := Freqs([]float64{1, math.Inf(1), math.NaN(), -1}); e != api.ErrInf || l != nil {
		t.Error(l, e)
	}
	if l, e := Freqs([]float64{-1, math.NaN()}); e != api.ErrRange || l != nil {
		t.Error(l, e)
	}
}

func TestMix(t *testing.T) {
	for _, c := range []struct {
		old, now []int
		w        float64
		want     []int
		e        api.Errno
	}{
		{[]int{10}, []int{20}, 0.25, []int{12}, api.OK},
		{[]int{20}, []int{10}, 0.25, []int{18}, api.OK}, // cut towards 0, not down
		{[]int{9, 6}, []int{1, 16}, 0.75, []int{3, 13}, api.OK},
		{[]int{10, 0}, []int{20, api.MaxPrice}, -3, []int{10, 0}, api.OK},
		{[]int{10, 0}, []int{20, api.MaxPrice}, 7, []int{20, api.MaxPrice}, api.OK},
		{[]int{10}, []int{20}, math.Inf(1), []int{20}, api.OK},
		{[]int{10}, []int{20}, math.Inf(-1), []int{10}, api.OK},
		{nil, nil, 0.5, nil, api.OK},
		{[]int{-1}, nil, math.NaN(), nil, api.ErrNaN},
		{[]int{-1}, nil, 0.5, nil, api.ErrArg},
		{[]int{1, -1}, []int{1, 1}, 0.5, nil, api.ErrRange},
		{[]int{1, 1}, []int{1, api.MaxPrice + 1}, 0.5, nil, api.ErrRange},
	} {
		if l, e := Mix(c.old, c.now, c.w); e != c.e || !slices.Equal(l, c.want) {
			t.Errorf("Mix(%v, %v, %v): %v, %d", c.old, c.now, c.w, l, e)
		}
	}
}

func TestRatio(t *testing.T) {
	if Ratio(1, 4) != 0.25 || Ratio(-1, 2) != -0.5 || !math.IsNaN(Ratio(0, 0)) || !math.IsInf(Ratio(3, 0), 1) || !math.IsInf(Ratio(-3, 0), -1) {
		t.Error("Ratio")
	}
}
