package near_test

import (
	"math"
	"math/rand"
	"slices"
	"strings"
	"testing"

	"gladstone/api"
	"gladstone/lcp"
	. "gladstone/near"
)

func slow(s string, i, window, most int) []api.Match {
	var out []api.Match
	best := 1
	for d := 1; d <= i && d <= window; d++ {
		if n := min(lcp.Of(s, i, i-d), most, 258); n > best {
			best = n
			out = append(out, api.Match{Len: n, Dist: d})
		}
	}
	return out
}

func TestExample(t *testing.T) {
	f := New("abcabab")
	if got := f.At(5, 9, 9); !slices.Equal(got, []api.Match{{Len: 2, Dist: 2}}) {
		t.Error(got)
	}
	if got := f.At(3, 9, 9); !slices.Equal(got, []api.Match{{Len: 2, Dist: 3}}) {
		t.Error(got)
	}
}

func TestAsSlow(t *testing.T) {
	rnd := rand.New(rand.NewSource(1))
	for range 150 {
		b := make([]byte, rnd.Intn(90))
		for i := range b {
			b[i] = byte('a' + rnd.Intn(1+rnd.Intn(4)))
		}
		s := strings.Repeat(string(b), 1+rnd.Intn(2))
		f := New(s)
		for i := range len(s) {
			window, most := 1+rnd.Intn(len(s)+3), 2+rnd.Intn(1+len(s))
			if got, want := f.At(i, window, most), slow(s, i, window, most); !slices.Equal(got, want) {
				t.Fatalf("%q at %d, %d, %d: %v, not %v", s, i, window, most, got, want)
			}
		}
	}
}

func TestLongest(t *testing.T) {
	f := New(strings.Repeat("a", 1000))
	if got := f.At(5, math.MaxInt, math.MaxInt); !slices.Equal(got, []api.Match{{Len: 258, Dist: 1}}) {
		t.Error(got)
	}
	if got := f.At(990, 1, 300); !slices.Equal(got, []api.Match{{Len: 10, Dist: 1}}) {
		t.Error(got)
	}
}

func TestNone(t *testing.T) {
	f := New("aaaaaa")
	for _, c := range [][3]int{{-1, 9, 9}, {6, 9, 9}, {7, 9, 9}, {2, 0, 9}, {2, -1, 9}, {2, 9, 1}, {2, 9, -5}, {0, 9, 9}, {5, 9, 9}, {math.MinInt, math.MinInt, math.MinInt}, {math.MaxInt, 1, 2}} {
		if got := f.At(c[0], c[1], c[2]); len(got) != 0 {
			t.Error(c, got)
		}
	}
	if got := New(strings.Repeat("a", 1<<27+1)).At(5, 9, 9); len(got) != 0 {
		t.Error("of too many bytes", got)
	}
	var none *Finder
	if len(none.At(0, 1, 2)) != 0 || len(New("").At(0, 1, 2)) != 0 {
		t.Error("nil")
	}
}
