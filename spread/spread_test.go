package spread_test

import (
	"math"
	"slices"
	"testing"

	"gladstone/api"
	. "gladstone/spread"
)

func TestBuckets(t *testing.T) {
	for _, c := range []struct{ l, want []int }{{nil, nil}, {[]int{0, -5, math.MinInt}, []int{3}}, {[]int{7, 1, 2, 3, 4, 0}, []int{1, 1, 2, 2}}, {[]int{8}, []int{0, 0, 0, 0, 1}}} {
		if got := Buckets(c.l); !slices.Equal(got, c.want) {
			t.Error(c.l, got)
		}
	}
	if got := Buckets([]int{math.MaxInt}); len(got) != 64 || got[63] != 1 {
		t.Error(got)
	}
}

func TestQuantile(t *testing.T) {
	l := []int{3, 1, 2}
	for _, c := range []struct {
		l     []int
		n, of int
		want  int
		e     api.Errno
	}{{l, 1, 2, 2, api.OK}, {l, 0, 2, 1, api.OK}, {l, 1, 1, 3, api.OK}, {l, 0, 1, 1, api.OK}, {l, 2, 2, 3, api.OK}, {l, 1, 3, 1, api.OK}, {l, 2, 3, 2, api.OK}, {[]int{9}, 1 << 20, 1 << 20, 9, api.OK}, {[]int{5, -7, 5, 0}, 1, 2, 0, api.OK},
		{nil, 3, 2, 0, api.ErrArg}, {l, 1, 0, 0, api.ErrArg}, {l, 1, 1<<20 + 1, 0, api.ErrArg}, {l, -1, 2, 0, api.ErrArg}, {l, 3, 2, 0, api.ErrArg}, {nil, 1, 2, 0, api.ErrNone}} {
		if got, e := Quantile(c.l, c.n, c.of); got != c.want || e != c.e {
			t.Error(c, got, e)
		}
	}
	if !slices.Equal(l, []int{3, 1, 2}) {
		t.Error("what was handed in has changed")
	}
}

func TestLens(t *testing.T) {
	l := []api.Token{{Byte: 1}, {Kind: 1, Len: 9, Dist: 1}, {Kind: 2, Len: 258}, {Kind: 1, Len: 9}, {Kind: 2, Len: 1}, {Kind: 2, Len: 2, Rep: 3}, {Kind: 7, Len: 5}}
	if got := Lens(l); !slices.Equal(got, []int{9, 258, 2}) {
		t.Error(got)
	}
	if len(Lens(nil)) != 0 {
		t.Error("of none")
	}
}
