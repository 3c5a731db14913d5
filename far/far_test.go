package far_test

import (
	"math"
	"math/rand"
	"testing"

	"gladstone/api"
	. "gladstone/far"
)

func bytesOf(seed int64, n int) string {
	b := make([]byte, n)
	rand.New(rand.NewSource(seed)).Read(b)
	return string(b)
}

func TestShared(t *testing.T) {
	for _, c := range []struct {
		hist, block string
		i, d, want  int
	}{{"abc", "abcabd", 0, 3, 5}, {"abc", "abcabd", 3, 6, 2}, {"", "aaaa", 1, 1, 3}, {"ab", "aaaa", 0, 2, 1}, {"ab", "ab", 0, 3, 0}, {"ab", "ab", 0, 0, 0},
		{"ab", "ab", 2, 1, 0}, {"ab", "ab", -1, 1, 0}, {"", "a", 0, 1, 0}, {"a", "aa", 0, math.MaxInt, 0}, {"a", "aa", 0, math.MinInt, 0}} {
		if got := Shared(c.hist, c.block, c.i, c.d); got != c.want {
			t.Errorf("%v: %d", c, got)
		}
	}
	long := string(make([]byte, 600))
	if Shared(long, long, 0, 1) != 258 || Shared(long, long, 500, 600) != 100 || Shared(long[:9], long, 0, 9) != 258 {
		t.Error("the longest")
	}
}

func TestAt(t *testing.T) {
	hist := bytesOf(1, 300000)
	block := "head" + hist[1000:1400] + "mid" + hist[299000:299100]
	f := New(hist, block)
	if m := f.At(4, math.MaxInt); m != (api.Match{Len: 258, Dist: 300000 + 4 - 1000}) {
		t.Error(m)
	}
	if m := f.At(407, 1<<20); m != (api.Match{Len: 100, Dist: 1407}) {
		t.Error(m)
	}
	if m := f.At(4, 299003); m != (api.Match{}) {
		t.Error("past the window", m)
	}
	for _, i := range []int{-1, 0, len(block) - 7, len(block), math.MaxInt - 8} {
		if m := f.At(i, math.MaxInt); m != (api.Match{}) {
			t.Error(i, m)
		}
	}
	if New("", block).At(0, 9) != (api.Match{}) || New(hist, "abc").At(0, 9) != (api.Match{}) || (*Finder)(nil).At(0, 9) != (api.Match{}) {
		t.Error("of too few bytes")
	}
}

func TestTail(t *testing.T) {
	hist := string(make([]byte, 1<<17))
	if Tail(hist, 1) != 4096 || Tail(hist, 1000) != 32000 || Tail(hist, 1<<16) != 1<<16 || Tail("abc", 9) != 3 {
		t.Error("Tail")
	}
}
