package split_test

import (
	"math"
	"math/rand"
	"slices"
	"strings"
	"testing"

	"gladstone/api"
	"gladstone/ilog"
	. "gladstone/split"
)

func TestCost(t *testing.T) {
	if Cost("", 7) != 0 || Cost("aaaa", 7) != 7 || Cost("aabb", 3) != 67 || Cost("abab", -70) != -6 {
		t.Error(Cost("aabb", 3))
	}
	freq := make([]int, 256)
	s := "of how often each occurs"
	for i := range len(s) {
		freq[s[i]]++
	}
	if want, _ := ilog.Entropy(freq); Cost(s, 0) != want {
		t.Error(Cost(s, 0), want)
	}
	much := strings.Repeat("a", 1<<26+1)
	if Cost(much, 7) != 0 || Cost(much[1:], 7) != 7 {
		t.Error("of many bytes")
	}
}

// slow is the least cost, and of those the longest first parts, by trying all.
func slow(s string, most, fee int) ([]int, int) {
	if s == "" {
		return nil, 0
	}
	var best []int
	cost := 0
	for n := min(most, len(s)); n >= 1; n-- {
		l, c := slow(s[n:], most, fee)
		if c += Cost(s[:n], fee); best == nil || c < cost {
			best, cost = append([]int{n}, l...), c
		}
	}
	return best, cost
}

func TestSplit(t *testing.T) {
	if l, c, e := Split("aaaabbbb", 8, 1); !slices.Equal(l, []int{4, 4}) || c != 2 || e != api.OK {
		t.Error(l, c, e)
	}
	rnd := rand.New(rand.NewSource(1))
	for range 150 {
		var b strings.Builder
		for b.Len() < 12 && rnd.Intn(9) > 0 {
			b.WriteString(strings.Repeat(string(rune('a'+rnd.Intn(3))), 1+rnd.Intn(4)))
		}
		s := b.String()[:min(b.Len(), 12)]
		most, fee := 1+rnd.Intn(14), rnd.Intn(1<<rnd.Intn(8))
		l, c, e := Split(s, most, fee)
		want, cost := slow(s, most, fee)
		if !slices.Equal(l, want) || c != cost || e != api.OK {
			t.Fatalf("%q, %d, %d: %v, %d, not %v, %d", s, most, fee, l, c, want, cost)
		}
	}
}

func TestLong(t *testing.T) {
	s := strings.Repeat("a", 2000) + strings.Repeat("b", 2096)
	if l, c, e := Split(s, 1<<16, 1<<20); !slices.Equal(l, []int{4096}) && !slices.Equal(l, []int{2000, 2096}) || c > 1<<21 || e != api.OK {
		t.Error(l, c, e)
	}
	if l, c, e := Split(s, 1, 5); len(l) != 4096 || c != 5*4096 || e != api.OK {
		t.Error(len(l), c, e)
	}
	if l, c, e := Split(s, 4096, 0); len(l) != 2 || c != 0 || e != api.OK {
		t.Error(l, c, e)
	}
}

func TestRefuses(t *testing.T) {
	for _, c := range []struct {
		n, most, fee int
	}{{5, 0, 0}, {5, -1, 0}, {5, 1<<16 + 1, 0}, {5, 5, -1}, {5, 5, 1<<20 + 1}, {4097, 5, 0}, {5, math.MinInt, 0}, {5, 5, math.MaxInt}} {
		if l, cost, e := Split(strings.Repeat("a", c.n), c.most, c.fee); l != nil || cost != 0 || e != api.ErrArg {
			t.Error(c, e)
		}
	}
	if l, c, e := Split("", 1<<16, 1<<20); len(l) != 0 || c != 0 || e != api.OK {
		t.Error("of nothing", l, c, e)
	}
}
