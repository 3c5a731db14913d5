package reps_test

import (
	"testing"

	"gladstone/api"
	. "gladstone/reps"
)

func TestUse(t *testing.T) {
	r := api.Reps{1, 2, 3, 4}
	if Start() != r {
		t.Error(Start())
	}
	for _, c := range []struct {
		r    api.Reps
		t    api.Token
		want api.Reps
		d    int
		e    api.Errno
	}{
		{r, api.Token{Byte: 9}, r, 0, api.OK},
		{api.Reps{-7, 0, 1 << 50, 3}, api.Token{Byte: 9}, api.Reps{-7, 0, 1 << 50, 3}, 0, api.OK},
		{r, api.Token{Kind: api.Copy, Len: 2, Dist: 9}, api.Reps{9, 1, 2, 3}, 9, api.OK},
		{r, api.Token{Kind: api.Copy, Len: 2, Dist: 2}, api.Reps{2, 1, 2, 3}, 2, api.OK},
		{r, api.Token{Kind: api.Repeat, Len: 2}, r, 1, api.OK},
		{r, api.Token{Kind: api.Repeat, Len: 2, Rep: 1}, api.Reps{2, 1, 3, 4}, 2, api.OK},
		{r, api.Token{Kind: api.Repeat, Len: 2, Rep: 2}, api.Reps{3, 1, 2, 4}, 3, api.OK},
		{r, api.Token{Kind: api.Repeat, Len: 2, Rep: 3}, api.Reps{4, 1, 2, 3}, 4, api.OK},
		{api.Reps{0, -1, 1<<26 + 1, 1 << 26}, api.Token{Kind: api.Repeat, Len: 2, Rep: 3}, api.Reps{1 << 26, 0, -1, 1<<26 + 1}, 1 << 26, api.OK},
		{api.Reps{0, -1, 1<<26 + 1, 1 << 26}, api.Token{Kind: api.Repeat, Len: 2}, api.Reps{}, 0, api.ErrToken},
		{api.Reps{0, -1, 1<<26 + 1, 1 << 26}, api.Token{Kind: api.Repeat, Len: 2, Rep: 1}, api.Reps{}, 0, api.ErrToken},
		{api.Reps{0, -1, 1<<26 + 1, 1 << 26}, api.Token{Kind: api.Repeat, Len: 2, Rep: 2}, api.Reps{}, 0, api.ErrToken},
		{r, api.Token{Kind: api.Repeat, Len: 2, Rep: 4}, api.Reps{}, 0, api.ErrToken},
		{r, api.Token{Kind: api.Copy, Len: 2}, api.Reps{}, 0, api.ErrToken},
		{r, api.Token{Kind: 5}, api.Reps{}, 0, api.ErrToken},
	} {
		if got, d, e := Use(c.r, c.t); got != c.want || d != c.d || e != c.e {
			t.Errorf("Use(%v, %v): %v, %d, %d", c.r, c.t, got, d, e)
		}
	}
}

func TestFind(t *testing.T) {
	r := api.Reps{5, 7, 5, 0}
	for d, want := range map[int]int{5: 0, 7: 1, 0: 3, 8: -1, -5: -1} {
		if Find(r, d) != want {
			t.Error(d, Find(r, d))
		}
	}
}
