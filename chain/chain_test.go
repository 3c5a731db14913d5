package chain_test

import (
	"math"
	"math/rand"
	"slices"
	"strings"
	"testing"

	"gladstone/api"
	. "gladstone/chain"
	"gladstone/lcp"
	"gladstone/near"
)

func texts(n int) []string {
	rnd := rand.New(rand.NewSource(1))
	out := []string{"", "a", "aa", "aaaa", "abcabab", strings.Repeat("a", 900), strings.Repeat("ab", 400), strings.Repeat(strings.Repeat("x", 300)+"y", 3)}
	for range n {
		b := make([]byte, rnd.Intn(200))
		for i := range b {
			b[i] = byte('a' + rnd.Intn(1+rnd.Intn(4)))
		}
		out = append(out, string(b), strings.Repeat(string(b), 3))
	}
	return out
}

func TestExample(t *testing.T) {
	f := New("aaaa", 9, 9)
	if m, at := f.Next(9); len(m) != 0 || at != 0 || f.At() != 1 {
		t.Error(m, at)
	}
	if m, at := f.Next(9); !slices.Equal(m, []api.Match{{Len: 3, Dist: 1}}) || at != 1 {
		t.Error(m, at)
	}
}

func TestAsNear(t *testing.T) {
	rnd := rand.New(rand.NewSource(2))
	for _, s := range texts(60) {
		for range 3 {
			window := 1 + rnd.Intn(len(s)+5)
			f, n := New(s, window, len(s)), near.New(s)
			for i := range len(s) {
				most := 2 + rnd.Intn(270)
				got, at := f.Next(most)
				if want := n.At(i, window, most); at != i || !slices.Equal(got, want) {
					t.Fatalf("%q at %d (%d, %d): %v, not %v", s, i, window, most, got, want)
				}
			}
			if m, at := f.Next(5); m != nil || at != -1 || f.At() != len(s) {
				t.Fatal("behind the end")
			}
		}
	}
}

// bySteps is what at most depth places that begin with the same two bytes give, the nearest first.
func bySteps(s string, i, window, depth, most int) []api.Match {
	var out []api.Match
	best := 1
	for d := 1; d <= min(i, window) && depth > 0 && i+1 < len(s); d++ {
		if s[i-d:i-d+2] != s[i:i+2] {
			continue
		}
		depth--
		if n := min(lcp.Of(s, i, i-d), most, 258); n > best {
			best = n
			out = append(out, api.Match{Len: n, Dist: d})
		}
	}
	return out
}

func TestShallow(t *testing.T) {
	rnd := rand.New(rand.NewSource(3))
	for _, s := range texts(60) {
		window, depth := 1+rnd.Intn(len(s)+5), rnd.Intn(6)-1
		f, n := New(s, window, depth), near.New(s)
		for i := range len(s) {
			most := rnd.Intn(300)
			got, at := f.Next(most)
			if want := bySteps(s, i, window, max(1, depth), max(2, most)); at != i || !slices.Equal(got, want) {
				t.Fatalf("%q at %d: %v, not %v", s, i, got, want)
			}
			all := n.At(i, window, 258)
			if len(got) > 0 && got[len(got)-1].Len > all[len(all)-1].Len {
				t.Fatal("longer than the longest")
			}
		}
	}
}

func TestMost(t *testing.T) {
	s := strings.Repeat("a", 700)
	f := New(s, math.MaxInt, math.MaxInt)
	for i, c := range []struct{ most, want int }{{9, 0}, {1, 2}, {-1, 2}, {math.MinInt, 2}, {259, 258}, {math.MaxInt, 258}, {3, 3}} {
		m, _ := f.Next(c.most)
		if i == 0 {
			continue
		}
		if !slices.Equal(m, []api.Match{{Len: c.want, Dist: 1}}) {
			t.Error(c.most, m)
		}
	}
}

func TestWindow(t *testing.T) {
	f := New("abxab", -5, 9)
	for range 3 {
		f.Next(9)
	}
	if m, at := f.Next(9); len(m) != 0 || at != 3 {
		t.Error("a window below 1", m)
	}
	f = New("ababab", math.MinInt, math.MinInt)
	for range 6 {
		if m, _ := f.Next(9); len(m) != 0 {
			t.Error("farther than 1", m)
		}
	}
}

func TestNil(t *testing.T) {
	var f *Finder
	if m, at := f.Next(5); m != nil || at != -1 || f.At() != 0 {
		t.Error("nil")
	}
	e := New("", 1, 1)
	if m, at := e.Next(5); m != nil || at != -1 || e.At() != 0 {
		t.Error("of nothing")
	}
}
