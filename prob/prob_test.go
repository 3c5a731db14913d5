package prob_test

import (
	"math"
	"slices"
	"testing"

	"gladstone/api"
	. "gladstone/prob"
)

func TestUpdate(t *testing.T) {
	if Start() != 1024 {
		t.Error(Start())
	}
	for _, c := range []struct {
		p    int
		bit  bool
		want int
		e    api.Errno
	}{{1024, false, 1056, api.OK}, {1024, true, 992, api.OK}, {1, true, 1, api.OK}, {31, true, 31, api.OK}, {32, true, 31, api.OK}, {2047, false, 2047, api.OK}, {2017, false, 2017, api.OK}, {2016, false, 2017, api.OK},
		{1, false, 64, api.OK}, {2047, true, 1984, api.OK}, {0, false, 0, api.ErrRange}, {2048, true, 0, api.ErrRange}, {-5, true, 0, api.ErrRange}, {math.MaxInt, false, 0, api.ErrRange}} {
		if p, e := Update(c.p, c.bit); p != c.want || e != c.e {
			t.Error(c, p, e)
		}
	}
}

func TestOf(t *testing.T) {
	if got := Of([]bool{false, false, true}); !slices.Equal(got, []int{1024, 1056, 1087}) {
		t.Error(got)
	}
	if len(Of(nil)) != 0 {
		t.Error("of no bits")
	}
}

func TestBounds(t *testing.T) {
	reach := map[int]bool{Start(): true}
	for work := []int{Start()}; len(work) > 0; work = work[1:] {
		for _, bit := range []bool{false, true} {
			p, e := Update(work[0], bit)
			if e != api.OK || p < 31 || p > 2017 {
				t.Fatal(work[0], p, e)
			}
			if !reach[p] {
				reach[p] = true
				work = append(work, p)
			}
		}
	}
	if !reach[31] || !reach[2017] {
		t.Error("the bounds are not come to")
	}
}
