package denote_test

import (
	"math"
	"strings"
	"testing"

	"gladstone/api"
	. "gladstone/denote"
)

func TestCopy(t *testing.T) {
	for _, c := range []struct {
		hist         string
		n, d, window int
		want         string
		e            api.Errno
	}{
		{"a", 3, 1, 1, "aaaa", api.OK},
		{"abc", 5, 2, 2, "abcbcbcb", api.OK},
		{"abc", 0, 3, 9, "abc", api.OK},
		{"a", 258, 1, 1, strings.Repeat("a", 259), api.OK},
		{"abc", 2, 3, 1 << 26, "abcab", api.OK},
		{"abc", -1, 9, 3, "", api.ErrArg},
		{"abc", 259, 1, 3, "", api.ErrArg},
		{"abc", 2, 9, 0, "", api.ErrArg},
		{"abc", 2, 1, 1<<26 + 1, "", api.ErrArg},
		{"abc", 2, 0, 3, "", api.ErrToken},
		{"abc", 2, -1, 3, "", api.ErrToken},
		{"abc", 2, 4, 9, "", api.ErrToken},
		{"abc", 0, 3, 2, "", api.ErrToken},
		{"", 0, 1, 9, "", api.ErrToken},
		{"abc", 2, math.MaxInt, 9, "", api.ErrToken},
	} {
		hist := []byte(c.hist)
		got, e := Copy(hist, c.n, c.d, c.window)
		if string(got) != c.want || e != c.e || string(hist) != c.hist {
			t.Errorf("Copy(%q, %d, %d, %d): %q, %d", c.hist, c.n, c.d, c.window, got, e)
		}
	}
}

func TestCopyIsNew(t *testing.T) {
	hist := make([]byte, 3, 50)
	copy(hist, "abc")
	x, _ := Copy(hist, 2, 1, 9)
	y, _ := Copy(hist, 2, 2, 9)
	hist[0] = 'z'
	if string(x) != "abccc" || string(y) != "abcbc" {
		t.Errorf("%q %q", x, y)
	}
}

func lit(s string) []api.Token {
	var l []api.Token
	for i := range len(s) {
		l = append(l, api.Token{Byte: int(s[i])})
	}
	return l
}

func TestApply(t *testing.T) {
	r := api.Reps{1, 2, 3, 4}
	l := append(lit("ab"), api.Token{Kind: api.Copy, Len: 4, Dist: 5}, api.Token{Kind: api.Repeat, Len: 2, Rep: 2})
	got, now, e := Apply([]byte("xyz"), r, l, 5)
	if string(got) != "xyzabxyzaza" || now != (api.Reps{2, 5, 1, 3}) || e != api.OK {
		t.Errorf("%q, %v, %d", got, now, e)
	}
	if !Valid("xyz", r, l, 5, "abxyzaza") || Valid("xyz", r, l, 5, "abxyzazb") || Valid("xyz", r, l, 5, "abxyzaz") || Valid("xyz", r, l, 4, "abxyzaza") {
		t.Error("Valid")
	}
	if got, now, e := Apply([]byte("xy"), api.Reps{-1}, lit("z"), 0); string(got) != "xyz" || now != (api.Reps{-1}) || e != api.OK {
		t.Error("literals need no window", got, now, e)
	}
	if got, now, e := Apply(nil, r, nil, -5); len(got) != 0 || now != r || e != api.OK {
		t.Error("no tokens", e)
	}
}

func TestApplyRefuses(t *testing.T) {
	for k, c := range []struct {
		r      api.Reps
		last   api.Token
		window int
		e      api.Errno
	}{
		{api.Reps{}, api.Token{Kind: api.Repeat, Len: 2}, 9, api.ErrToken},
		{api.Reps{4}, api.Token{Kind: api.Repeat, Len: 2}, 9, api.ErrToken},
		{api.Reps{3}, api.Token{Kind: api.Repeat, Len: 2}, 2, api.ErrToken},
		{api.Reps{3}, api.Token{Kind: api.Copy, Len: 2, Dist: 4}, 9, api.ErrToken},
		{api.Reps{3}, api.Token{Kind: api.Copy, Len: 2, Dist: 0}, 0, api.ErrToken},
		{api.Reps{3}, api.Token{Kind: api.Copy, Len: 2, Dist: 1}, 0, api.ErrArg},
		{api.Reps{3}, api.Token{Kind: api.Copy, Len: 2, Dist: 9}, 1<<26 + 1, api.ErrArg},
		{api.Reps{3}, api.Token{Kind: 7}, 0, api.ErrToken},
	} {
		l := append(lit("b"), c.last)
		if got, now, e := Apply([]byte("aa"), c.r, l, c.window); got != nil || now != (api.Reps{}) || e != c.e {
			t.Errorf("%d: %q, %v, %d", k, got, now, e)
		}
		if Valid("aa", c.r, l, c.window, "b") {
			t.Errorf("%d is valid", k)
		}
	}
}
