package kraft_test

import (
	"testing"

	"gladstone/api"
	. "gladstone/kraft"
)

func TestUsedAndSum(t *testing.T) {
	l := []int{0, 1, -3, 2, 17, 16, 3}
	if Used(l) != 5 || Used(nil) != 0 {
		t.Error(Used(l))
	}
	if Sum(l, 16) != 1<<15+1<<14+1+1<<13 || Sum(l, 2) != 3 || Sum(l, 1) != 1 || Sum(nil, 4) != 0 {
		t.Error(Sum(l, 16), Sum(l, 2))
	}
	for _, limit := range []int{0, -1, 17, 64, 1 << 40} {
		if Sum(l, limit) != 0 || Whole(nil, limit) || Whole(l, limit) {
			t.Error("limit", limit)
		}
	}
}

func many(n, length int) []int {
	l := make([]int, n)
	for i := range l {
		l[i] = length
	}
	return l
}

func TestCheck(t *testing.T) {
	for _, c := range []struct {
		l     []int
		limit int
		e     api.Errno
	}{
		{[]int{1, 2, 2}, 2, api.OK},
		{[]int{1, 2}, 2, api.ErrKraft},
		{[]int{1, 1, 1}, 2, api.ErrKraft},
		{[]int{1, 2, 2}, 0, api.ErrArg},
		{many(2000, -1), 17, api.ErrArg},
		{[]int{1, 1}, -1, api.ErrArg},
		{many(1024, 10), 10, api.OK},
		{many(1024, 10), 16, api.OK},
		{many(1025, 0), 10, api.ErrLimit},
		{many(1025, -1), 10, api.ErrLimit},
		{many(1024, 0), 10, api.ErrNone},
		{nil, 1, api.ErrNone},
		{[]int{0, -1}, 3, api.ErrRange},
		{[]int{0, 4}, 3, api.ErrRange},
		{[]int{1, 1, 1, 4}, 3, api.ErrRange},
		{[]int{0, 0, 1}, 5, api.OK},
		{[]int{1}, 1, api.OK},
		{[]int{0, 2}, 5, api.ErrKraft},
		{[]int{16}, 16, api.ErrKraft},
		{[]int{1, 1}, 16, api.OK},
		{[]int{1, 2, 3, 4, 5, 6, 7, 8, 9, 10, 11, 12, 13, 14, 15, 16, 16}, 16, api.OK},
		{[]int{1, 2, 3, 4, 5, 6, 7, 8, 9, 10, 11, 12, 13, 14, 15, 16}, 16, api.ErrKraft},
	} {
		if e := Check(c.l, c.limit); e != c.e {
			t.Errorf("Check(%d of them, %d): %d, not %d", len(c.l), c.limit, e, c.e)
		}
	}
}

func TestWhole(t *testing.T) {
	if !Whole([]int{1, 2, 2}, 2) || !Whole([]int{1, 2, 2}, 9) || Whole([]int{1, 2}, 2) || Whole([]int{1, 1, 1}, 2) || Whole(nil, 1) {
		t.Error("Whole")
	}
	if !Whole([]int{1, 2, 2, 5, -1, 0}, 2) {
		t.Error("lengths past the limit count")
	}
}
