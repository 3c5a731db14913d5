package grams_test

import (
	"math/rand"
	"slices"
	"strings"
	"testing"

	"gladstone/api"
	. "gladstone/grams"
)

func TestCount(t *testing.T) {
	got := Count([]string{"abab", "abab", "", "x"}, 2)
	if !slices.Equal(got, []api.Gram{{Text: "ab", N: 4}, {Text: "ba", N: 2}}) {
		t.Error(got)
	}
	got = Count([]string{"cab", "bac"}, 1)
	if !slices.Equal(got, []api.Gram{{Text: "a", N: 2}, {Text: "b", N: 2}, {Text: "c", N: 2}}) {
		t.Error(got)
	}
	if got := Count([]string{strings.Repeat("x", 20)}, 16); !slices.Equal(got, []api.Gram{{Text: strings.Repeat("x", 16), N: 5}}) {
		t.Error(got)
	}
	for _, k := range []int{0, -1, 17, 1 << 40} {
		if got := Count([]string{strings.Repeat("x", 40)}, k); len(got) != 0 {
			t.Error(k, got)
		}
	}
	if len(Count(nil, 3)) != 0 || len(Count([]string{"ab"}, 3)) != 0 {
		t.Error("of too few bytes")
	}
}

func slow(l []string, size, k int) string {
	out := ""
	for _, g := range Count(l, k) {
		if g.N >= 2 && !strings.Contains(out, g.Text) && len(out)+k <= size {
			out = g.Text + out
		}
	}
	return out
}

func TestBuild(t *testing.T) {
	if s, e := Build([]string{"abab", "abab"}, 4, 2); s != "baab" || e != api.OK {
		t.Error(s, e)
	}
	rnd := rand.New(rand.NewSource(1))
	for range 400 {
		var l []string
		for range rnd.Intn(5) {
			b := make([]byte, rnd.Intn(60))
			for i := range b {
				b[i] = byte('a' + rnd.Intn(3))
			}
			l = append(l, string(b))
		}
		size, k := rnd.Intn(100), 2+rnd.Intn(4)
		if s, e := Build(l, size, k); s != slow(l, size, k) || len(s) > size || e != api.OK {
			t.Fatalf("%q, %d, %d: %q, %d", l, size, k, s, e)
		}
	}
}

func TestBuildRefuses(t *testing.T) {
	for _, c := range [][2]int{{9, 1}, {9, 0}, {9, 17}, {-1, 3}, {1<<26 + 1, 3}, {-1, 1}} {
		if s, e := Build([]string{"aaaaaaa"}, c[0], c[1]); s != "" || e != api.ErrArg {
			t.Error(c, s, e)
		}
	}
	if s, e := Build([]string{"aaaaaaa"}, 0, 2); s != "" || e != api.OK {
		t.Error(s, e)
	}
	if s, e := Build(nil, 1<<26, 16); s != "" || e != api.OK {
		t.Error(s, e)
	}
}
